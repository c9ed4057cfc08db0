package impl

// One is a tenant's machine without a service, a log or a chain: what is meant by all of them.
type One struct {
	Up    bool
	Clock int
	Board []BillLine
	Key   int
	Epoch int
	Bill  Bill
	Asked int
	Safe  int
}

// OneOpen is a tenant's machine with its keys.
func OneOpen(operator int, key int) One { return One{} }

// OneDo lets something happen to a tenant's machine: the machine, and what is told.
func OneDo(m One, tenant int, e SplitEvent) (One, string) { return One{}, "" }

// OnePlay lets one thing happen behind the other: what the tenant is told.
func OnePlay(operator int, key int, tenant int, events []SplitEvent) (One, []string) {
	return One{}, nil
}
