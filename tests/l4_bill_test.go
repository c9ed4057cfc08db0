package tests

import (
	"math"
	"math/big"
	"math/rand"
	"reflect"
	"slices"
	"strconv"
	"strings"
	"testing"
	"unsafe"

	"loop.example/scot/impl"
)

func TestBillBounds(t *testing.T) {
	if impl.BillMaxLines != 6 || impl.BillMaxInvoices != 8 || impl.BillMaxTax != 5000 {
		t.Error(impl.BillMaxLines, impl.BillMaxInvoices, impl.BillMaxTax)
	}
	kinds := []int{impl.BillSets, impl.BillDrops, impl.BillUses, impl.BillFixes, impl.BillCloses, impl.BillCredits, impl.BillPays}
	for i, kind := range kinds {
		if kind != i+1 {
			t.Errorf("kind %d is %d", i+1, kind)
		}
	}
	codes := []int{impl.BillDone, impl.BillAgain, impl.BillOther, impl.BillFull, impl.BillForm, impl.BillNone, impl.BillOver, impl.BillMuch}
	for i, code := range codes {
		if code != i {
			t.Errorf("code %d is %d", i, code)
		}
	}
}

func line(name, rule string, tax int) impl.BillLine {
	return impl.BillLine{Name: name, Rule: rule, Tax: tax}
}

func row(name string, net, tax int) impl.BillRow {
	return impl.BillRow{Name: name, Net: net, Tax: tax}
}

// invoice is the invoice of these rows, its sums being those of the rows.
func invoice(no, credit int, events []impl.UseEvent, rows ...impl.BillRow) impl.BillInvoice {
	v := impl.BillInvoice{No: no, Rows: rows, Events: events, Credit: credit}
	for _, row := range rows {
		v.Net += row.Net
		v.Tax += row.Tax
	}
	return v
}

func op(kind int, a, b string, n int) impl.BillOp {
	return impl.BillOp{Kind: kind, A: a, B: b, N: n}
}

// ruleFor is a rule that comes to this amount.
func ruleFor(n int) string {
	if n <= 1000000000 {
		return strconv.Itoa(n)
	}
	return "(add (times " + strconv.Itoa(n/1000000) + " 1000000) " + strconv.Itoa(n%1000000) + ")"
}

// tariffFor is so many lines, ascending, of rules of all kinds.
func tariffFor(count int) []impl.BillLine {
	lines := []impl.BillLine{line("base", "(steps calls 100:0 0:1)", 1900), line("data", "(times gb 25)", 1900), line("extra", "(max 0 (sub disk 3))", 700),
		line("fee", "500", 0), line("home", "(if gb 77 calls)", 5000), line("rest", "(part calls 333)", 1900), line("zz", "x", 1)}
	return lines[:count]
}

// taken is the bill behind a few calls: two closed periods, one that is open, a credit and a payment.
func taken() impl.Bill {
	return impl.Bill{
		Tariff: tariffFor(3),
		Events: []impl.UseEvent{event("a", "gb", 3), event("b", "calls", 150)},
		Invoices: []impl.BillInvoice{
			invoice(1, 8, []impl.UseEvent{event("a", "gb", 5), event("e1", "calls", 150)}, row("base", 50, 9), row("data", 125, 24)),
			invoice(2, 0, nil),
			invoice(3, 0, []impl.UseEvent{event("a", "gb", 1)}, row("data", 25, 5)),
		},
		Paid: 50,
	}
}

// fullBill is a bill at all of its limits.
func fullBill() impl.Bill {
	b := impl.Bill{Tariff: tariffFor(6), Events: eventsFrom(20), Paid: 1000000000000000}
	for no := 1; no <= 8; no++ {
		v := invoice(no, 0, eventsFrom(20), row("a", 100, 0), row("b", 100, 50), row("c", 0, 0), row("d", 7, 3), row("e", 1, 1), row("zzzzzzzz", 2, 0))
		v.Credit = v.Net + v.Tax
		b.Invoices = append(b.Invoices, v)
	}
	b.Invoices[7] = invoice(8, 0, nil, row("a", 600000000000000, 0), row("b", 0, 400000000000000))
	return b
}

// billCopy is a copy of a bill with memory of its own.
func billCopy(b impl.Bill) impl.Bill {
	b.Tariff, b.Events, b.Invoices = slices.Clone(b.Tariff), slices.Clone(b.Events), slices.Clone(b.Invoices)
	for i, v := range b.Invoices {
		b.Invoices[i].Rows, b.Invoices[i].Events = slices.Clone(v.Rows), slices.Clone(v.Events)
	}
	return b
}

// changed is a copy of a bill in which something is another.
func changed(b impl.Bill, change func(b *impl.Bill)) impl.Bill {
	b = billCopy(b)
	change(&b)
	return b
}

// wrongLines is lines each of which is not right by one part alone.
func wrongLines() []impl.BillLine {
	var all []impl.BillLine
	for _, name := range append(ruleWords(), "", "A", "baSe", "ba se", "base1", "1", "abcdefghi", "é", "base\x00", "\xff", " base", "base ", "base\n", "-") {
		all = append(all, line(name, "gb", 5))
	}
	for _, rule := range []string{"", " ", "(", "()", "(add 1", "(add 1 2", "(add 1 2))", "(add 1 2) ", " (add 1 2)", "(add  1 2)", "(add 1 2 3)", "+1", "01", "-0", "1000000001", "-1000000001", "if", "tier", "Gb", "abcdefghi", "(steps gb 1:1)", "(steps gb 0:1 0:1)", "(part gb 1000001)", "(tier 1 2)", "gb\n", "\x00", "\xff",
		strings.Repeat("(part ", 8) + "x" + strings.Repeat(" 1)", 8), strings.Repeat("x", 1<<20)} {
		all = append(all, line("base", rule, 5))
	}
	for _, tax := range wrongTaxes() {
		all = append(all, line("base", "gb", tax))
	}
	return append(all, impl.BillLine{})
}

func wrongTaxes() []int {
	return []int{-1, -2, -5000, 5001, 5002, 10000, 1 << 32, 1<<32 + 1, -1 << 32, math.MaxInt, math.MaxInt - 1, math.MinInt, math.MinInt + 1}
}

// edgeLines is right lines each of which meets a limit exactly.
func edgeLines(t *testing.T) []impl.BillLine {
	return []impl.BillLine{line("a", "0", 0), line("z", "z", 5000), line("abcdefgh", "-1000000000", 1), line("zzzzzzzz", "1000000000", 4999), line("adds", "adds", 5), line("tiers", "tiers", 5),
		line("long", impl.RuleText(exprOfSize(t, 600)), 5), line("deep", strings.Repeat("(part ", 7)+"x"+strings.Repeat(" 1)", 7), 5)}
}

// wrongTariffs is tariffs that are not right, each for one reason.
func wrongTariffs(t *testing.T) [][]impl.BillLine {
	all := [][]impl.BillLine{
		append(tariffFor(6), line("zzz", "1", 1)), append(tariffFor(6), line("zzz", "1", 1), line("zzzz", "1", 1)),
		slices.Repeat([]impl.BillLine{line("a", "1", 1)}, 1<<16),
		{line("b", "1", 1), line("a", "1", 1)},
		{line("a", "1", 1), line("a", "1", 1)},
		{line("a", "1", 1), line("a", "2", 2)},
		{line("aa", "1", 1), line("a", "1", 1)},
		{line("b", "1", 1), line("aa", "1", 1)},
		{line("a", "1", 1), line("b", "1", 1), line("b", "1", 1)},
		{line("a", "1", 1), line("c", "1", 1), line("b", "1", 1)},
		{line("a", "1", 1), line("b", "1", 1), line("a", "1", 1)},
		{line("long", impl.RuleText(exprOfSize(t, 601)), 5)},
	}
	for _, wrong := range wrongLines() {
		all = append(all, []impl.BillLine{wrong}, []impl.BillLine{line("a", "1", 1), wrong}, []impl.BillLine{wrong, line("zzz", "1", 1)})
	}
	for i := range 6 {
		tariff := tariffFor(6)
		tariff[i].Tax = 5001
		all = append(all, tariff)
		tariff = tariffFor(6)
		tariff[i].Rule += ")"
		all = append(all, tariff)
		if i > 0 {
			tariff = tariffFor(6)
			tariff[i-1], tariff[i] = tariff[i], tariff[i-1]
			all = append(all, tariff)
		}
	}
	return all
}

// wrongUnits is numbers that are no amounts, or below 0.
func wrongUnits() []int {
	return []int{-1, -2, -1000000000000000, -1000000000000001, 1000000000000001, 1000000000000002, 1 << 62, math.MaxInt, math.MaxInt - 1, math.MinInt, math.MinInt + 1}
}

// wrongRows is rows of an invoice that are not right, each for one reason.
func wrongRows() [][]impl.BillRow {
	seven := []impl.BillRow{row("a", 1, 0), row("b", 1, 0), row("c", 1, 0), row("d", 1, 0), row("e", 1, 0), row("f", 1, 0), row("g", 1, 0)}
	all := [][]impl.BillRow{seven, append(slices.Clone(seven), row("h", 1, 0)),
		{row("b", 1, 1), row("a", 1, 1)}, {row("a", 1, 1), row("a", 1, 1)}, {row("a", 1, 1), row("a", 2, 2)}, {row("aa", 1, 1), row("a", 1, 1)},
		{row("a", 1, 1), row("c", 1, 1), row("b", 1, 1)}, {row("a", 1, 1), row("b", 1, 1), row("a", 1, 1)},
		// Each is an amount, and they are none together.
		{row("a", 1000000000000000, 1)}, {row("a", 1, 1000000000000000)}, {row("a", 1000000000000000, 0), row("b", 1, 0)}, {row("a", 0, 1000000000000000), row("b", 0, 1)},
		{row("a", 1000000000000000, 0), row("b", 0, 1)}, {row("a", 500000000000000, 500000000000000), row("b", 1, 0)}, {row("a", 1000000000000000, 1000000000000000), row("b", 1000000000000000, 1000000000000000)},
	}
	for _, name := range append(ruleWords(), "", "A", "baSe", "ba se", "base1", "abcdefghi", "\xff", "base\n") {
		all = append(all, []impl.BillRow{row(name, 1, 1)})
	}
	for _, n := range wrongUnits() {
		all = append(all, []impl.BillRow{row("a", n, 0)}, []impl.BillRow{row("a", 0, n)}, []impl.BillRow{row("a", 5, 5), row("b", n, 5)}, []impl.BillRow{row("a", 5, n), row("b", 5, 5)})
		// What would come back to an amount by wrapping round, or by being told ahead of its minus.
		all = append(all, []impl.BillRow{row("a", n, 0), row("b", -n, 0)}, []impl.BillRow{row("a", n, -n)})
	}
	return all
}

// wrongBills is bills that are not ok, each for one reason.
func wrongBills(t *testing.T) []impl.Bill {
	var all []impl.Bill
	change := func(change func(b *impl.Bill)) {
		all = append(all, changed(taken(), change), changed(fullBill(), change))
	}
	for _, wrong := range wrongTariffs(t) {
		change(func(b *impl.Bill) { b.Tariff = wrong })
		all = append(all, impl.Bill{Tariff: wrong})
	}
	for _, wrong := range wrongLists() {
		change(func(b *impl.Bill) { b.Events = wrong })
		change(func(b *impl.Bill) { b.Invoices[0].Events = wrong })
		all = append(all, changed(taken(), func(b *impl.Bill) { b.Invoices[2].Events = wrong }))
	}
	for _, wrong := range wrongRows() {
		for i := range 3 {
			change(func(b *impl.Bill) { b.Invoices[i] = invoice(i+1, 0, nil, wrong...) })
			// With all of it credited, no sum of several invoices is in the way.
			change(func(b *impl.Bill) {
				v := invoice(i+1, 0, nil, wrong...)
				v.Credit = v.Net + v.Tax
				b.Invoices[i] = v
			})
		}
	}
	for _, n := range wrongUnits() {
		change(func(b *impl.Bill) { b.Paid = n })
		change(func(b *impl.Bill) { b.Invoices[0].Credit = n })
		change(func(b *impl.Bill) { b.Invoices[2].Credit = n })
		change(func(b *impl.Bill) { b.Invoices[0].Net = n })
		change(func(b *impl.Bill) { b.Invoices[0].Tax = n })
	}
	for i := range 3 {
		for _, no := range []int{0, -1, i, i + 2, i - 7, 8, 9, -i - 1, math.MaxInt, math.MinInt} {
			if no != i+1 {
				change(func(b *impl.Bill) { b.Invoices[i].No = no })
			}
		}
		for _, off := range []int{1, -1, 100, -100} {
			change(func(b *impl.Bill) { b.Invoices[i].Net += off })
			change(func(b *impl.Bill) { b.Invoices[i].Tax += off })
			change(func(b *impl.Bill) { b.Invoices[i].Net += off; b.Invoices[i].Tax -= off })
		}
		change(func(b *impl.Bill) { b.Invoices[i].Credit = -1 })
		change(func(b *impl.Bill) { b.Invoices[i].Credit = b.Invoices[i].Net + b.Invoices[i].Tax + 1 })
		change(func(b *impl.Bill) {
			b.Invoices = slices.Delete(b.Invoices, i, i+1)
			b.Invoices = append(b.Invoices, invoice(4, 0, nil))
		})
	}
	change(func(b *impl.Bill) { b.Invoices[0], b.Invoices[1] = b.Invoices[1], b.Invoices[0] })
	all = append(all,
		changed(fullBill(), func(b *impl.Bill) { b.Invoices = append(b.Invoices, invoice(9, 0, nil)) }),
		changed(fullBill(), func(b *impl.Bill) { b.Invoices[7].Credit = -1 }),
		changed(fullBill(), func(b *impl.Bill) { b.Invoices[6].Credit-- }),
		changed(fullBill(), func(b *impl.Bill) { b.Invoices[6] = invoice(7, 0, nil, row("a", 1, 0)) }),
		changed(fullBill(), func(b *impl.Bill) { b.Invoices[0] = invoice(1, 0, nil, row("a", 1000000000000000, 0)) }),
		changed(fullBill(), func(b *impl.Bill) {
			for i := range b.Invoices {
				b.Invoices[i] = invoice(i+1, 0, nil, row("a", 1000000000000000, 0))
			}
		}),
		impl.Bill{Invoices: slices.Repeat([]impl.BillInvoice{invoice(1, 0, nil)}, 1<<16)})
	return all
}

// okBills is bills that are ok, some of them at limits.
func okBills(t *testing.T) []impl.Bill {
	all := []impl.Bill{{}, {Tariff: []impl.BillLine{}, Events: []impl.UseEvent{}, Invoices: []impl.BillInvoice{}}, {Invoices: []impl.BillInvoice{{No: 1, Rows: []impl.BillRow{}, Events: []impl.UseEvent{}}}}, taken(), fullBill()}
	for _, list := range okLists() {
		all = append(all, changed(taken(), func(b *impl.Bill) { b.Events = list }), changed(taken(), func(b *impl.Bill) { b.Invoices[1].Events = list }))
	}
	for count := range 7 {
		all = append(all, changed(taken(), func(b *impl.Bill) { b.Tariff = tariffFor(count) }))
	}
	for _, edge := range edgeLines(t) {
		all = append(all, impl.Bill{Tariff: []impl.BillLine{edge}}, changed(taken(), func(b *impl.Bill) { b.Tariff = []impl.BillLine{edge} }))
	}
	for _, rows := range [][]impl.BillRow{{row("a", 0, 0)}, {row("abcdefgh", 1000000000000000, 0)}, {row("z", 0, 1000000000000000)}, {row("adds", 999999999999999, 1)}, {row("a", 5, 0), row("aa", 5, 0), row("b", 5, 0)},
		{row("a", 200000000000000, 0), row("b", 0, 200000000000000), row("c", 100000000000000, 100000000000000), row("d", 0, 0), row("e", 0, 399999999999999), row("f", 1, 0)}} {
		v := invoice(1, 0, nil, rows...)
		sum := v.Net + v.Tax
		for _, credit := range []int{0, sum / 2, sum} {
			v.Credit = credit
			all = append(all, impl.Bill{Invoices: []impl.BillInvoice{v}}, impl.Bill{Invoices: []impl.BillInvoice{v}, Paid: 1000000000000000})
		}
	}
	for _, paid := range []int{0, 1, 999999999999999, 1000000000000000} {
		all = append(all, impl.Bill{Paid: paid}, changed(taken(), func(b *impl.Bill) { b.Paid = paid }))
	}
	return all
}

func lineTruth(line impl.BillLine) bool {
	e, ok := impl.RuleRead(line.Rule)
	return nameTruth(line.Name) && ok && okTruth(e) && ruleTextTruth(e) == line.Rule && line.Tax >= 0 && line.Tax <= 5000
}

// namesTruth says whether names are ascending: each is held against all behind it.
func namesTruth(names []string) bool {
	for i, name := range names {
		for _, behind := range names[i+1:] {
			if strings.Compare(name, behind) >= 0 {
				return false
			}
		}
	}
	return true
}

func tariffTruth(tariff []impl.BillLine) bool {
	var names []string
	if len(tariff) > 6 {
		return false
	}
	for _, line := range tariff {
		if !lineTruth(line) {
			return false
		}
		names = append(names, line.Name)
	}
	return namesTruth(names)
}

// unitsTruth says whether a number is an amount and not below 0.
func unitsTruth(n *big.Int) bool { return isAmount(n) && n.Sign() >= 0 }

func sumOf(numbers ...int) *big.Int {
	sum := new(big.Int)
	for _, n := range numbers {
		sum.Add(sum, wide(n))
	}
	return sum
}

func invoiceTruth(v impl.BillInvoice) bool {
	var names []string
	var nets, taxes []int
	if len(v.Rows) > 6 || !listTruth(v.Events) {
		return false
	}
	for _, row := range v.Rows {
		if !nameTruth(row.Name) || !unitsTruth(wide(row.Net)) || !unitsTruth(wide(row.Tax)) {
			return false
		}
		names, nets, taxes = append(names, row.Name), append(nets, row.Net), append(taxes, row.Tax)
	}
	both := sumOf(v.Net, v.Tax)
	return namesTruth(names) && sumOf(nets...).Cmp(wide(v.Net)) == 0 && sumOf(taxes...).Cmp(wide(v.Tax)) == 0 && isAmount(both) && v.Credit >= 0 && wide(v.Credit).Cmp(both) <= 0
}

// grossTruth is the gross of all invoices together, by unbounded numbers.
func grossTruth(invoices []impl.BillInvoice) *big.Int {
	sum := new(big.Int)
	for _, v := range invoices {
		sum.Add(sum, sumOf(v.Net, v.Tax))
		sum.Sub(sum, wide(v.Credit))
	}
	return sum
}

// billTruth is BillOk as the document says it, by unbounded numbers.
func billTruth(b impl.Bill) bool {
	if !tariffTruth(b.Tariff) || !listTruth(b.Events) || len(b.Invoices) > 8 {
		return false
	}
	for i, v := range b.Invoices {
		if v.No != i+1 || !invoiceTruth(v) {
			return false
		}
	}
	return isAmount(grossTruth(b.Invoices)) && unitsTruth(wide(b.Paid))
}

func TestBillOk(t *testing.T) {
	for i, b := range okBills(t) {
		if !billTruth(b) {
			t.Fatalf("the test has bill %d as ok: %v", i, b)
		}
		if !impl.BillOk(b) {
			t.Errorf("bill %d is ok: %v", i, b)
		}
	}
	for i, b := range wrongBills(t) {
		if billTruth(b) {
			t.Fatalf("the test has bill %d as not ok: %v", i, b)
		}
		if impl.BillOk(b) {
			t.Errorf("bill %d is not ok: %v", i, b)
		}
	}
}

// P9: of a bill that is not ok there is one answer, whatever is asked for.
func TestBillsThatAreNotOk(t *testing.T) {
	calls := append(callsOfEachKind(), op(0, "", "", 0), op(8, "", "", 0))
	for i, b := range wrongBills(t) {
		if got := impl.BillDue(b); got != 0 {
			t.Errorf("BillDue of bill %d that is not ok is %d", i, got)
		}
		for _, call := range calls {
			if got, code, n := impl.BillDo(b, call); !reflect.DeepEqual(got, impl.Bill{}) || code != impl.BillForm || n != 0 {
				t.Fatalf("BillDo of bill %d that is not ok, %v: %v %d %d", i, call, got, code, n)
			}
		}
	}
}

// callsOfEachKind is a call of each kind that is done with the bill of taken.
func callsOfEachKind() []impl.BillOp {
	return []impl.BillOp{op(impl.BillSets, "fee", "500", 0), op(impl.BillDrops, "base", "", 0), op(impl.BillUses, "e9", "gb", 3), op(impl.BillFixes, "a", "", 4), op(impl.BillCloses, "", "", 0), op(impl.BillCredits, "1", "", 1), op(impl.BillPays, "", "", 1)}
}

// Each part counts, and the empty list and the nil list are the same.
func TestBillSame(t *testing.T) {
	base := changed(taken(), func(b *impl.Bill) { b.Invoices[1].Rows = []impl.BillRow{row("x", 0, 0)} })
	others := []impl.Bill{{},
		changed(base, func(b *impl.Bill) { b.Tariff = nil }),
		changed(base, func(b *impl.Bill) { b.Tariff = b.Tariff[:2] }),
		changed(base, func(b *impl.Bill) { b.Tariff = b.Tariff[1:] }),
		changed(base, func(b *impl.Bill) { b.Tariff = append(b.Tariff, line("zz", "1", 1)) }),
		changed(base, func(b *impl.Bill) { b.Tariff[2].Name += "x" }),
		changed(base, func(b *impl.Bill) { b.Tariff[0].Rule = "1" }),
		changed(base, func(b *impl.Bill) { b.Tariff[1].Tax++ }),
		changed(base, func(b *impl.Bill) { b.Tariff[0], b.Tariff[1] = b.Tariff[1], b.Tariff[0] }),
		changed(base, func(b *impl.Bill) { b.Events = nil }),
		changed(base, func(b *impl.Bill) { b.Events = b.Events[:1] }),
		changed(base, func(b *impl.Bill) { b.Events = append(b.Events, event("x", "x", 1)) }),
		changed(base, func(b *impl.Bill) { b.Events[0].Id = "x" }),
		changed(base, func(b *impl.Bill) { b.Events[1].Meter = "x" }),
		changed(base, func(b *impl.Bill) { b.Events[1].Qty++ }),
		changed(base, func(b *impl.Bill) { b.Invoices = nil }),
		changed(base, func(b *impl.Bill) { b.Invoices = b.Invoices[:2] }),
		changed(base, func(b *impl.Bill) { b.Invoices = append(b.Invoices, invoice(4, 0, nil)) }),
		changed(base, func(b *impl.Bill) { b.Invoices[2].No = 4 }),
		changed(base, func(b *impl.Bill) { b.Invoices[0].Rows = nil }),
		changed(base, func(b *impl.Bill) { b.Invoices[1].Rows = nil }),
		changed(base, func(b *impl.Bill) { b.Invoices[0].Rows[1].Name = "x" }),
		changed(base, func(b *impl.Bill) { b.Invoices[0].Rows[0].Net-- }),
		changed(base, func(b *impl.Bill) { b.Invoices[0].Rows[0].Tax-- }),
		changed(base, func(b *impl.Bill) { b.Invoices[2].Events = nil }),
		changed(base, func(b *impl.Bill) { b.Invoices[2].Events[0].Qty++ }),
		changed(base, func(b *impl.Bill) { b.Invoices[0].Net++ }),
		changed(base, func(b *impl.Bill) { b.Invoices[0].Tax++ }),
		changed(base, func(b *impl.Bill) { b.Invoices[0].Credit++ }),
		changed(base, func(b *impl.Bill) { b.Paid++ }),
		changed(base, func(b *impl.Bill) { b.Paid = math.MinInt }),
	}
	all := append(others, base)
	for i, a := range all {
		for j, b := range all {
			if got := impl.BillSame(a, billCopy(b)); got != (i == j) {
				t.Errorf("BillSame of %d and %d is %v", i, j, got)
			}
		}
	}
	empty := impl.Bill{Tariff: []impl.BillLine{}, Events: []impl.UseEvent{}, Invoices: []impl.BillInvoice{}}
	if !impl.BillSame(empty, impl.Bill{}) || !impl.BillSame(impl.Bill{}, empty) {
		t.Error("an empty list is not a nil list")
	}
	rowless := impl.Bill{Invoices: []impl.BillInvoice{{No: 1, Rows: []impl.BillRow{}, Events: []impl.UseEvent{}}}}
	if !impl.BillSame(rowless, impl.Bill{Invoices: []impl.BillInvoice{{No: 1}}}) {
		t.Error("an empty list of an invoice is not a nil list")
	}
	for i, b := range append(wrongBills(t), okBills(t)...) {
		if !impl.BillSame(b, billCopy(b)) {
			t.Errorf("bill %d is not the same as itself", i)
		}
	}
}

// rateTruth is BillRate as the document says it, by unbounded numbers and without a sort.
func rateTruth(tariff []impl.BillLine, events []impl.UseEvent) ([]impl.BillRow, int) {
	if !tariffTruth(tariff) || !listTruth(events) {
		return nil, 4
	}
	rows, rests := []impl.BillRow{}, []int{}
	nets, left := map[int]*big.Int{}, map[int]int{}
	for _, line := range tariff {
		e, _ := impl.RuleRead(line.Rule)
		net, code, _ := ruleRunTruth(e, sumsTruth(events), 1000)
		if code != 0 {
			return nil, 6
		}
		if net < 0 {
			net = 0
		}
		part, rest := new(big.Int).QuoRem(new(big.Int).Mul(wide(net), wide(line.Tax)), wide(10000), new(big.Int))
		rows, rests = append(rows, row(line.Name, net, int(part.Int64()))), append(rests, int(rest.Int64()))
		if nets[line.Tax] == nil {
			nets[line.Tax] = new(big.Int)
		}
		nets[line.Tax].Add(nets[line.Tax], wide(net))
		left[line.Tax] -= int(part.Int64())
	}
	all := new(big.Int)
	for rate, net := range nets {
		if !isAmount(net) {
			return nil, 6
		}
		tax, ok := partTruth(int(net.Int64()), rate, 10000)
		if !ok {
			return nil, 6
		}
		all.Add(all, net).Add(all, wide(tax))
		for left[rate] += tax; left[rate] > 0; left[rate]-- {
			best := -1
			for i, line := range tariff {
				if line.Tax == rate && (best < 0 || rests[i] > rests[best]) {
					best = i
				}
			}
			rows[best].Tax++
			rests[best] = -1
		}
	}
	if !isAmount(all) {
		return nil, 6
	}
	return rows, 0
}

// checkTaxes holds rows against what P10 says of them, whatever their Net is.
func checkTaxes(t *testing.T, tariff []impl.BillLine, rows []impl.BillRow) {
	t.Helper()
	nets, taxes := map[int]int{}, map[int]int{}
	for i, row := range rows {
		rate := tariff[i].Tax
		nets[rate] += row.Net
		taxes[rate] += row.Tax
		due := new(big.Int).Mul(wide(row.Net), wide(rate))
		away := due.Sub(new(big.Int).Mul(wide(row.Tax), wide(10000)), due)
		if away.CmpAbs(wide(10000)) >= 0 {
			t.Errorf("of %v row %v is a unit away from its due", tariff, row)
		}
	}
	for rate, net := range nets {
		if tax, _ := partTruth(net, rate, 10000); tax != taxes[rate] {
			t.Errorf("of %v the tax of %d with the rate %d is %d, not %d", tariff, net, rate, taxes[rate], tax)
		}
	}
}

// checkRate holds BillRate against the document, and tells its answer.
func checkRate(t *testing.T, tariff []impl.BillLine, events []impl.UseEvent) ([]impl.BillRow, int) {
	t.Helper()
	want, wantCode := rateTruth(tariff, events)
	lines, uses := spared(tariff, line("spare", "77", 77)), spared(events, event("spare", "spare", 77))
	linesBefore, usesBefore := slices.Clone(lines[:cap(lines)]), slices.Clone(uses[:cap(uses)])
	got, code := impl.BillRate(lines, uses)
	if code != wantCode || !slices.Equal(got, want) {
		t.Errorf("BillRate(%v, %v) is %v %d, not %v %d", tariff[:min(len(tariff), 8)], events[:min(len(events), 21)], got, code, want, wantCode)
	}
	if code == impl.BillDone {
		checkTaxes(t, tariff, got)
	}
	again, _ := impl.BillRate(lines, uses)
	if !slices.Equal(got, again) || !slices.Equal(lines[:cap(lines)], linesBefore) || !slices.Equal(uses[:cap(uses)], usesBefore) {
		t.Errorf("BillRate(%v, %v): an argument was written into", tariff[:min(len(tariff), 8)], events[:min(len(events), 21)])
	}
	checkApart(t, spanOf(lines), spanOf(uses), spanOf(got), spanOf(again))
	return got, code
}

// spared is a copy of a list with room behind its end, and something in it.
func spared[T any](list []T, spare T) []T {
	return append(slices.Clone(list), spare, spare, spare)[:len(list)]
}

// span is the memory of a list, spare room too.
type span struct{ from, to uintptr }

func spanOf[T any](list []T) span {
	from := uintptr(unsafe.Pointer(unsafe.SliceData(list)))
	return span{from, from + uintptr(cap(list))*unsafe.Sizeof(*new(T))}
}

// spansOf is the memory of all lists of a bill.
func spansOf(b impl.Bill) []span {
	spans := []span{spanOf(b.Tariff), spanOf(b.Events), spanOf(b.Invoices)}
	for _, v := range b.Invoices {
		spans = append(spans, spanOf(v.Rows), spanOf(v.Events))
	}
	return spans
}

// checkApart holds that no two of these share memory.
func checkApart(t *testing.T, spans ...span) {
	t.Helper()
	for i, a := range spans {
		for _, b := range spans[i+1:] {
			if max(a.from, b.from) < min(a.to, b.to) {
				t.Fatalf("two lists share memory: %x and %x", a, b)
			}
		}
	}
}

// sparedBill is a copy of a bill each of whose lists has room behind its end.
func sparedBill(b impl.Bill) impl.Bill {
	b.Tariff = spared(b.Tariff, line("spare", "77", 77))
	b.Events = spared(b.Events, event("spare", "spare", 77))
	b.Invoices = spared(b.Invoices, invoice(77, 7, nil, row("spare", 77, 77)))
	for i, v := range b.Invoices {
		b.Invoices[i].Rows = spared(v.Rows, row("spare", 77, 77))
		b.Invoices[i].Events = spared(v.Events, event("spare", "spare", 77))
	}
	return b
}

// withRoomOf is a copy of all that a bill holds and has behind the ends of its lists.
func withRoomOf(b impl.Bill) impl.Bill {
	b.Tariff, b.Events, b.Invoices = b.Tariff[:cap(b.Tariff)], b.Events[:cap(b.Events)], slices.Clone(b.Invoices[:cap(b.Invoices)])
	for i, v := range b.Invoices {
		b.Invoices[i].Rows, b.Invoices[i].Events = v.Rows[:cap(v.Rows)], v.Events[:cap(v.Events)]
	}
	return billCopy(b)
}

// sameBill is BillSame as the document says it: lists of no length are the same.
func sameBill(a, b impl.Bill) bool { return reflect.DeepEqual(plain(a), plain(b)) }

// plain is a copy of a bill with nil in the place of each empty list.
func plain(b impl.Bill) impl.Bill {
	b.Tariff, b.Events, b.Invoices = append([]impl.BillLine(nil), b.Tariff...), append([]impl.UseEvent(nil), b.Events...), append([]impl.BillInvoice(nil), b.Invoices...)
	for i, v := range b.Invoices {
		b.Invoices[i].Rows, b.Invoices[i].Events = append([]impl.BillRow(nil), v.Rows...), append([]impl.UseEvent(nil), v.Events...)
	}
	return b
}

// doTruth is BillDo as the document says it.
func doTruth(b impl.Bill, op impl.BillOp) (impl.Bill, int, int) {
	if !billTruth(b) {
		return impl.Bill{}, 4, 0
	}
	after := billCopy(b)
	code, n := turnTruth(&after, op)
	if code != 0 {
		return b, code, 0
	}
	return after, 0, n
}

// turnTruth turns a bill that is ok by a call, and tells the code and the number.
func turnTruth(b *impl.Bill, op impl.BillOp) (code, n int) {
	switch op.Kind {
	case 1:
		return setTruth(b, line(op.A, op.B, op.N)), 0
	case 2:
		kept := slices.DeleteFunc(slices.Clone(b.Tariff), func(line impl.BillLine) bool { return line.Name == op.A })
		if len(kept) == len(b.Tariff) {
			return 5, 0
		}
		b.Tariff = kept
		return 0, 0
	case 3:
		b.Events, code = putTruth(b.Events, event(op.A, op.B, op.N))
		return code, 0
	case 4:
		b.Events, code = fixTruth(b.Events, op.A, op.N)
		return code, 0
	case 5:
		return closeTruth(b)
	case 6:
		return creditTruth(b, op.A, op.N)
	case 7:
		if op.N <= 0 || !isAmount(wide(op.N)) {
			return 4, 0
		}
		if !isAmount(sumOf(b.Paid, op.N)) {
			return 6, 0
		}
		b.Paid += op.N
		return 0, dueTruth(*b)
	}
	return 4, 0
}

func setTruth(b *impl.Bill, line impl.BillLine) int {
	if !lineTruth(line) {
		return 4
	}
	for i, old := range b.Tariff {
		if old.Name != line.Name {
			continue
		}
		if old.Rule == line.Rule && old.Tax == line.Tax {
			return 1
		}
		b.Tariff[i] = line
		return 0
	}
	if len(b.Tariff) >= 6 {
		return 3
	}
	place := 0
	for place < len(b.Tariff) && b.Tariff[place].Name < line.Name {
		place++
	}
	b.Tariff = slices.Concat(b.Tariff[:place], []impl.BillLine{line}, b.Tariff[place:])
	return 0
}

func closeTruth(b *impl.Bill) (int, int) {
	if len(b.Invoices) >= 8 {
		return 3, 0
	}
	rows, code := rateTruth(b.Tariff, b.Events)
	if code != 0 {
		return code, 0
	}
	no := len(b.Invoices) + 1
	b.Invoices = append(b.Invoices, invoice(no, 0, b.Events, rows...))
	b.Events = nil
	if !isAmount(grossTruth(b.Invoices)) {
		return 6, 0
	}
	return 0, no
}

func creditTruth(b *impl.Bill, no string, n int) (int, int) {
	if n <= 0 || !isAmount(wide(n)) {
		return 4, 0
	}
	for i := range b.Invoices {
		v := &b.Invoices[i]
		if no != []string{"1", "2", "3", "4", "5", "6", "7", "8"}[i] {
			continue
		}
		if n > v.Net+v.Tax-v.Credit {
			return 7, 0
		}
		v.Credit += n
		return 0, v.Net + v.Tax - v.Credit
	}
	return 5, 0
}

// dueTruth is BillDue of a bill that is ok.
func dueTruth(b impl.Bill) int {
	due := grossTruth(b.Invoices)
	return int(due.Sub(due, wide(b.Paid)).Int64())
}

// checkDo holds BillDo against the document and against P9 to P12, and tells its answer.
func checkDo(t *testing.T, b impl.Bill, call impl.BillOp) (impl.Bill, int, int) {
	t.Helper()
	want, wantCode, wantN := doTruth(b, call)
	given := sparedBill(b)
	before := withRoomOf(given)
	got, code, n := impl.BillDo(given, call)
	if code != wantCode || n != wantN || !sameBill(got, want) {
		t.Fatalf("BillDo(%v, %v) is %v %d %d, not %v %d %d", b, call, got, code, n, want, wantCode, wantN)
	}
	again, _, _ := impl.BillDo(given, call)
	if !sameBill(got, again) || !reflect.DeepEqual(withRoomOf(given), before) {
		t.Fatalf("BillDo(%v, %v): an argument was written into", b, call)
	}
	checkApart(t, slices.Concat(spansOf(given), spansOf(got), spansOf(again))...)
	checkTurn(t, b, call, got, code)
	return got, code, n
}

// checkTurn holds a bill that is ok, and the one behind a call, against P9, P11 and P12.
func checkTurn(t *testing.T, before impl.Bill, call impl.BillOp, after impl.Bill, code int) {
	t.Helper()
	if !impl.BillOk(before) {
		return
	}
	if !impl.BillOk(after) {
		t.Fatalf("P9: behind %v the bill is not ok: %v", call, after)
	}
	if code != impl.BillDone && !impl.BillSame(before, after) {
		t.Fatalf("P9: %v has the code %d, and yet %v came to be %v", call, code, before, after)
	}
	more := 0
	if code == impl.BillDone && call.Kind == impl.BillCloses {
		last := after.Invoices[len(after.Invoices)-1]
		more = last.Net + last.Tax
		checkClosed(t, before, after)
	} else if len(after.Invoices) != len(before.Invoices) {
		t.Fatalf("P11: %v turned %d invoices to %d", call, len(before.Invoices), len(after.Invoices))
	}
	if code == impl.BillDone && (call.Kind == impl.BillCredits || call.Kind == impl.BillPays) {
		more = -call.N
	}
	if got := impl.BillDue(after) - impl.BillDue(before); got != more || impl.BillDue(after) != dueTruth(after) {
		t.Fatalf("P12: %v turned what is due by %d, not %d", call, got, more)
	}
	for i, v := range before.Invoices {
		now := after.Invoices[i]
		if now.Credit < v.Credit || now.Credit > v.Net+v.Tax || now.No != i+1 {
			t.Fatalf("P11: %v turned invoice %v to %v", call, v, now)
		}
		now.Credit = v.Credit
		if !sameBill(impl.Bill{Invoices: []impl.BillInvoice{now}}, impl.Bill{Invoices: []impl.BillInvoice{v}}) {
			t.Fatalf("P11: %v turned invoice %v to %v", call, v, now)
		}
	}
}

// checkClosed holds the invoice of a close against P10 and P11.
func checkClosed(t *testing.T, before, after impl.Bill) {
	t.Helper()
	last := after.Invoices[len(after.Invoices)-1]
	if len(after.Invoices) != len(before.Invoices)+1 || last.No != len(after.Invoices) || last.Credit != 0 {
		t.Fatalf("P11: behind %d invoices comes %v", len(before.Invoices), last)
	}
	if !slices.Equal(last.Events, before.Events) || len(after.Events) != 0 || !slices.Equal(after.Tariff, before.Tariff) || len(last.Rows) != len(before.Tariff) {
		t.Fatalf("P10: a close turned %v to %v", before, after)
	}
	net, tax := 0, 0
	for i, row := range last.Rows {
		e, _ := impl.RuleRead(before.Tariff[i].Rule)
		value, code, _ := impl.RuleRun(e, impl.UseSums(before.Events), impl.RuleMaxFuel)
		if code != impl.RuleDone || row.Net != max(value, 0) || row.Name != before.Tariff[i].Name {
			t.Fatalf("P10: the row %v is not what its rule says: %d", row, value)
		}
		net, tax = net+row.Net, tax+row.Tax
	}
	if net != last.Net || tax != last.Tax {
		t.Fatalf("P10: the rows of %v are %d and %d together", last, net, tax)
	}
	checkTaxes(t, before.Tariff, last.Rows)
}

// linesOf is lines a, b, c .. of these Nets and rates of tax, by turns.
func linesOf(numbers ...int) []impl.BillLine {
	var tariff []impl.BillLine
	for i := 0; i < len(numbers); i += 2 {
		tariff = append(tariff, line(string([]byte{byte('a' + i/2)}), ruleFor(numbers[i]), numbers[i+1]))
	}
	return tariff
}

// P10: tax that does not add up row by row.
func TestTaxByHand(t *testing.T) {
	for i, c := range []struct {
		tariff []impl.BillLine
		taxes  []int
	}{
		{nil, nil},
		{linesOf(0, 1900), []int{0}},
		{linesOf(100, 0), []int{0}},
		{linesOf(100, 1900), []int{19}},
		{linesOf(50, 1900, 125, 1900), []int{9, 24}},
		// Three times 0.33 is 0.99: one unit in all, to the first.
		{linesOf(33, 100, 33, 100, 33, 100), []int{1, 0, 0}},
		// Row by row each would be rounded up; all three together are 1.8.
		{linesOf(60, 100, 60, 100, 60, 100), []int{1, 1, 0}},
		// Row by row each would be rounded down; together they are 2.4.
		{linesOf(40, 100, 40, 100, 40, 100, 40, 100, 40, 100, 40, 100), []int{1, 1, 0, 0, 0, 0}},
		// The greatest remainder is not the greatest Net, nor the first.
		{linesOf(199, 100, 130, 100, 180, 100), []int{2, 1, 2}},
		{linesOf(110, 100, 120, 100, 130, 100), []int{1, 1, 2}},
		{linesOf(110, 100, 130, 100, 130, 100, 130, 100), []int{1, 2, 1, 1}},
		// Half a unit in all goes to the even one: 0.5 to 0, 1.5 to 2, 2.5 to 2.
		{linesOf(25, 100, 25, 100), []int{0, 0}},
		{linesOf(75, 100, 75, 100), []int{1, 1}},
		{linesOf(125, 100, 125, 100), []int{1, 1}},
		{linesOf(50, 100), []int{0}},
		{linesOf(150, 100), []int{2}},
		{linesOf(250, 100), []int{2}},
		// Rates are reckoned each for itself, whatever stands between their lines.
		{linesOf(33, 100, 60, 101, 33, 100, 60, 101, 33, 100, 60, 101), []int{1, 1, 0, 1, 0, 0}},
		{linesOf(50, 100, 50, 101, 50, 102, 50, 103, 50, 99, 50, 0), []int{0, 1, 1, 1, 0, 0}},
		{linesOf(0, 5000, 1, 5000, 3, 5000, 0, 5000), []int{0, 1, 1, 0}},
		{linesOf(1, 5000, 1, 5000, 1, 5000), []int{1, 1, 0}},
		{linesOf(1, 1, 4999, 1), []int{0, 0}},
		{linesOf(2, 1, 4999, 1), []int{0, 1}},
		{linesOf(666666666666666, 5000), []int{333333333333333}},
		{linesOf(333333333333333, 5000, 333333333333333, 5000), []int{166666666666667, 166666666666666}},
	} {
		rows, code := checkRate(t, c.tariff, nil)
		if code != impl.BillDone || len(rows) != len(c.tariff) {
			t.Errorf("case %d: %v %d", i, rows, code)
			continue
		}
		for j, row := range rows {
			if row.Tax != c.taxes[j] || ruleFor(row.Net) != c.tariff[j].Rule {
				t.Errorf("case %d: row %d is %v, its tax should be %d", i, j, row, c.taxes[j])
			}
		}
	}
}

// P10: each row's Net is what its rule says of the usage, but not below 0.
func TestNetByHand(t *testing.T) {
	events := []impl.UseEvent{event("a", "gb", 3), event("b", "calls", 150), event("c", "gb", 4)}
	for i, c := range []struct {
		rule string
		net  int
	}{
		{"0", 0}, {"7", 7}, {"-7", 0}, {"gb", 7}, {"calls", 150}, {"disk", 0}, {"(sub gb calls)", 0}, {"(sub calls gb)", 143}, {"(times gb 25)", 175},
		{"(steps calls 100:0 0:2)", 100}, {"(steps gb 5:10 0:1)", 52}, {"(part calls 333)", 5}, {"(part (sub 0 calls) 333)", 0}, {"(if disk 5 6)", 6}, {"(if gb 5 6)", 5},
		{"(min gb calls)", 7}, {"(max gb calls)", 150}, {"(max -5 -4)", 0}, {"(add -5 gb)", 2},
	} {
		rows, code := checkRate(t, []impl.BillLine{line("a", c.rule, 0)}, events)
		if code != impl.BillDone || len(rows) != 1 || rows[0] != row("a", c.net, 0) {
			t.Errorf("case %d: %q comes to %v %d, not %d", i, c.rule, rows, code, c.net)
		}
	}
	// A tariff that asks for nothing, a period without events, and neither.
	if rows, code := checkRate(t, nil, events); len(rows) != 0 || code != impl.BillDone {
		t.Error(rows, code)
	}
	if rows, code := checkRate(t, tariffFor(6), nil); code != impl.BillDone || len(rows) != 6 || rows[3] != row("fee", 500, 0) || rows[0] != row("base", 0, 0) {
		t.Error(rows, code)
	}
	if rows, code := checkRate(t, []impl.BillLine{}, []impl.UseEvent{}); len(rows) != 0 || code != impl.BillDone {
		t.Error(rows, code)
	}
}

// P10: sums that are amounts just so, and those that are none.
func TestRatesAtTheBoundOfAmounts(t *testing.T) {
	const most = 1000000000000000
	for i, c := range []struct {
		tariff []impl.BillLine
		code   int
	}{
		{linesOf(most, 0), impl.BillDone},
		{linesOf(most, 1), impl.BillOver},
		{linesOf(most, 5000), impl.BillOver},
		{[]impl.BillLine{line("a", "(add (times 1000000000 1000000) 1)", 0)}, impl.BillOver},
		{[]impl.BillLine{line("a", "(sub (times -1000000000 1000000) 1)", 0)}, impl.BillOver},
		{[]impl.BillLine{line("a", "(times -1000000000 1000000)", 5000)}, impl.BillDone},
		{[]impl.BillLine{line("a", "1", 0), line("b", "(times 1000000000 1000000000)", 0)}, impl.BillOver},
		{[]impl.BillLine{line("a", "(times 1000000000 1000000000)", 0), line("b", "1", 0)}, impl.BillOver},
		{[]impl.BillLine{line("a", "(if 1 2 (times 1000000000 1000000000))", 0), line("b", "1", 0)}, impl.BillDone},
		{linesOf(most, 0, 1, 0), impl.BillOver},
		{linesOf(most, 0, 0, 0), impl.BillDone},
		{linesOf(most-1, 0, 1, 0), impl.BillDone},
		{linesOf(most, 0, 1, 100), impl.BillOver},
		{linesOf(1, 100, most, 0), impl.BillOver},
		{linesOf(most-1, 0, 1, 100), impl.BillDone},
		{linesOf(most-100, 0, 100, 100), impl.BillOver},
		{linesOf(most-101, 0, 100, 100), impl.BillDone},
		{linesOf(800000000000000, 2500), impl.BillDone},
		{linesOf(800000000000001, 2500), impl.BillOver},
		{linesOf(400000000000000, 2500, 400000000000000, 2500), impl.BillDone},
		{linesOf(400000000000000, 2500, 400000000000001, 2500), impl.BillOver},
		{linesOf(666666666666666, 5000), impl.BillDone},
		{linesOf(666666666666667, 5000), impl.BillOver},
		{linesOf(most, 0, most, 0, most, 0, most, 0, most, 0, most, 0), impl.BillOver},
		{linesOf(most, 5000, most, 4999, most, 4998, most, 4997, most, 4996, most, 4995), impl.BillOver},
		{linesOf(most/2, 5000, most/2, 5000, most/2, 5000), impl.BillOver},
	} {
		rows, code := checkRate(t, c.tariff, nil)
		if code != c.code || code != impl.BillDone && len(rows) != 0 {
			t.Errorf("case %d: %v %d, not %d", i, rows, code, c.code)
		}
	}
	// Of what events use: at the bound of all events together, and over it.
	events := eventsFrom(20)
	for i := range events {
		events[i] = event(events[i].Id, "gb", 1000000000)
	}
	for times, want := range map[int]int{50000: impl.BillDone, 50001: impl.BillOver} {
		if rows, code := checkRate(t, []impl.BillLine{line("a", "(times gb "+strconv.Itoa(times)+")", 0)}, events); code != want {
			t.Errorf("times %d: %v %d", times, rows, code)
		}
	}
}

// BillForm comes ahead of BillOver, and nothing is beside it.
func TestRatesOfWrongInputs(t *testing.T) {
	over := []impl.BillLine{line("a", "(times 1000000000 1000000000)", 0)}
	for _, tariff := range wrongTariffs(t) {
		for _, events := range [][]impl.UseEvent{nil, eventsFrom(5), eventsFrom(21)} {
			if rows, code := checkRate(t, tariff, events); len(rows) != 0 || code != impl.BillForm {
				t.Errorf("of a tariff that is not right: %v %d", rows, code)
			}
		}
		if rows, code := checkRate(t, append(slices.Clone(over), tariff...), nil); len(rows) != 0 || code != impl.BillForm {
			t.Errorf("of a tariff that is not right: %v %d", rows, code)
		}
	}
	for _, events := range wrongLists() {
		for _, tariff := range [][]impl.BillLine{nil, tariffFor(3), over, tariffFor(7)} {
			if rows, code := checkRate(t, tariff, events); len(rows) != 0 || code != impl.BillForm {
				t.Errorf("of events that are not ok: %v %d", rows, code)
			}
		}
	}
	for _, edge := range edgeLines(t) {
		if _, code := checkRate(t, []impl.BillLine{edge}, eventsFrom(20)); code == impl.BillForm {
			t.Errorf("%v is right", edge)
		}
	}
}

// P10: each way to share small Nets among three lines of two rates.
func TestTaxOfSmallNets(t *testing.T) {
	for _, rates := range [][]int{{5000, 5000, 5000}, {3333, 3333, 3333}, {2500, 2500, 1250}, {1250, 2500, 1250}, {4999, 5000, 5000}} {
		for a := range 9 {
			for b := range 9 {
				for c := range 9 {
					if rows, code := checkRate(t, linesOf(a, rates[0], b, rates[1], c, rates[2]), nil); code != impl.BillDone {
						t.Fatal(rows, code)
					}
				}
			}
		}
	}
}

// drawTariff is a tariff that is right, with few rates of tax.
func drawTariff(r *rand.Rand) []impl.BillLine {
	var tariff []impl.BillLine
	rates := []int{0, 1, 700, 1900, 5000, r.Intn(5001)}
	for _, name := range []string{"a", "aa", "b", "data", "x", "zzzzzzzz"} {
		if r.Intn(3) > 0 {
			tariff = append(tariff, line(name, drawRule(r), rates[r.Intn(1+r.Intn(len(rates)))]))
		}
	}
	return tariff
}

func drawRule(r *rand.Rand) string {
	switch r.Intn(4) {
	case 0:
		return ruleFor(r.Intn(100))
	case 1:
		return ruleFor([]int{r.Intn(1000000000000000), 1000000000000000, 500000000000000, 166666666666666}[r.Intn(4)])
	case 2:
		for {
			if text := ruleTextTruth(drawExpr(r, 1+r.Intn(4))); len(text) <= 600 {
				return text
			}
		}
	}
	return []string{"gb", "(times calls 3)", "(steps gb 10:7 100:5 0:2)", "(part calls 333)", "(sub gb calls)"}[r.Intn(5)]
}

func TestRatesOfManyTariffs(t *testing.T) {
	r := rand.New(rand.NewSource(41))
	codes := map[int]int{}
	for range 6000 {
		_, code := checkRate(t, drawTariff(r), drawList(r, r.Intn(8)))
		codes[code]++
	}
	for range 6000 {
		var numbers []int
		most := []int{10, 1000, 1000000, 166666666666666}[r.Intn(4)]
		rates := []int{r.Intn(5001), r.Intn(5001)}
		for range 1 + r.Intn(6) {
			numbers = append(numbers, r.Intn(most), rates[r.Intn(2)])
		}
		_, code := checkRate(t, linesOf(numbers...), nil)
		codes[code]++
	}
	if codes[impl.BillDone] < 6000 || codes[impl.BillOver] < 1000 {
		t.Error(codes)
	}
}

func TestSetsAndDropsByHand(t *testing.T) {
	b := taken()
	for i, c := range []struct {
		op    impl.BillOp
		code  int
		names string
	}{
		{op(impl.BillSets, "fee", "500", 0), impl.BillDone, "base data extra fee"},
		{op(impl.BillSets, "a", "500", 5000), impl.BillDone, "a base data extra"},
		{op(impl.BillSets, "bases", "500", 1), impl.BillDone, "base bases data extra"},
		{op(impl.BillSets, "base", "500", 1), impl.BillDone, "base data extra"},
		{op(impl.BillSets, "base", "(steps calls 100:0 0:1)", 1901), impl.BillDone, "base data extra"},
		{op(impl.BillSets, "base", "(steps calls 100:0 0:2)", 1900), impl.BillDone, "base data extra"},
		{op(impl.BillSets, "base", "(steps calls 100:0 0:1)", 1900), impl.BillAgain, "base data extra"},
		{op(impl.BillSets, "data", "(times gb 25)", 1900), impl.BillAgain, "base data extra"},
		{op(impl.BillSets, "base", "(steps calls 100:0 0:1", 1900), impl.BillForm, "base data extra"},
		{op(impl.BillSets, "base", "(steps calls 100:0 0:1)", 5001), impl.BillForm, "base data extra"},
		{op(impl.BillSets, "base", "(steps calls 100:0 0:1)", -1), impl.BillForm, "base data extra"},
		{op(impl.BillSets, "max", "1", 1), impl.BillForm, "base data extra"},
		{op(impl.BillSets, "", "", 0), impl.BillForm, "base data extra"},
		{op(impl.BillDrops, "base", "", 0), impl.BillDone, "data extra"},
		{op(impl.BillDrops, "data", "any", -7), impl.BillDone, "base extra"},
		{op(impl.BillDrops, "extra", "(", math.MinInt), impl.BillDone, "base data"},
		{op(impl.BillDrops, "fee", "", 0), impl.BillNone, "base data extra"},
		{op(impl.BillDrops, "", "", 0), impl.BillNone, "base data extra"},
		{op(impl.BillDrops, "Base", "", 0), impl.BillNone, "base data extra"},
		{op(impl.BillDrops, "bas", "", 0), impl.BillNone, "base data extra"},
		{op(impl.BillDrops, "base ", "", 0), impl.BillNone, "base data extra"},
	} {
		got, code, n := checkDo(t, b, c.op)
		var names []string
		for _, line := range got.Tariff {
			names = append(names, line.Name)
		}
		if code != c.code || n != 0 || strings.Join(names, " ") != c.names {
			t.Errorf("case %d: %v %d %d", i, got.Tariff, code, n)
		}
	}
	got, _, _ := impl.BillDo(b, op(impl.BillSets, "data", "7", 3))
	if want := changed(b, func(b *impl.Bill) { b.Tariff[1] = line("data", "7", 3) }); !sameBill(got, want) {
		t.Errorf("%v, not %v", got, want)
	}
}

// As many lines as there may be, and one more; codes in the order of the chapter.
func TestSetsUpToTheLimit(t *testing.T) {
	lines := tariffFor(6)
	for _, last := range []int{0, 3, 5} {
		b := impl.Bill{}
		for i, l := range slices.Delete(slices.Clone(lines), last, last+1) {
			var code int
			if b, code, _ = checkDo(t, b, op(impl.BillSets, l.Name, l.Rule, l.Tax)); code != impl.BillDone || len(b.Tariff) != i+1 {
				t.Fatalf("line %d: %v %d", i, b, code)
			}
		}
		b, code, _ := checkDo(t, b, op(impl.BillSets, lines[last].Name, lines[last].Rule, lines[last].Tax))
		if code != impl.BillDone || !slices.Equal(b.Tariff, lines) {
			t.Fatalf("the last line: %v %d", b, code)
		}
		for _, c := range []struct {
			op   impl.BillOp
			code int
		}{
			{op(impl.BillSets, "zz", "1", 1), impl.BillFull},
			{op(impl.BillSets, "a", "1", 1), impl.BillFull},
			{op(impl.BillSets, "zz", "1", 5001), impl.BillForm},
			{op(impl.BillSets, "zz", "(", 1), impl.BillForm},
			{op(impl.BillSets, "steps", "1", 1), impl.BillForm},
			{op(impl.BillSets, "fee", "500", 0), impl.BillAgain},
			{op(impl.BillSets, "fee", "500", 1), impl.BillDone},
			{op(impl.BillSets, "fee", "501", 0), impl.BillDone},
			{op(impl.BillSets, "fee", "501", -1), impl.BillForm},
		} {
			if _, code, _ := checkDo(t, b, c.op); code != c.code {
				t.Errorf("full, %v: %d, not %d", c.op, code, c.code)
			}
		}
	}
	for _, b := range []impl.Bill{{}, taken(), fullBill()} {
		for _, wrong := range wrongLines() {
			if _, code, _ := checkDo(t, b, op(impl.BillSets, wrong.Name, wrong.Rule, wrong.Tax)); code != impl.BillForm {
				t.Errorf("%.80v is not right: %d", wrong, code)
			}
		}
		for _, edge := range edgeLines(t) {
			if _, code, _ := checkDo(t, b, op(impl.BillSets, edge.Name, edge.Rule, edge.Tax)); code == impl.BillForm {
				t.Errorf("%.80v is right", edge)
			}
		}
	}
}

// Events come and are fixed as chapter 3 says, each code being that of UsePut and UseFix.
func TestUsesAndFixesOfABill(t *testing.T) {
	for i, c := range []struct {
		op   impl.BillOp
		code int
	}{
		{op(impl.BillUses, "c", "gb", 1), impl.BillDone},
		{op(impl.BillUses, "a", "gb", 3), impl.BillAgain},
		{op(impl.BillUses, "a", "gb", 4), impl.BillOther},
		{op(impl.BillUses, "a", "calls", 3), impl.BillOther},
		{op(impl.BillUses, "a", "if", 3), impl.BillForm},
		{op(impl.BillUses, "A", "gb", 3), impl.BillForm},
		{op(impl.BillUses, "a", "gb", -1), impl.BillForm},
		{op(impl.BillUses, "", "", 0), impl.BillForm},
		// What was closed counts no more: its Ids may come again.
		{op(impl.BillUses, "e1", "calls", 7), impl.BillDone},
		{op(impl.BillFixes, "a", "", 4), impl.BillDone},
		{op(impl.BillFixes, "a", "any", 0), impl.BillDone},
		{op(impl.BillFixes, "a", "", 3), impl.BillAgain},
		{op(impl.BillFixes, "c", "", 3), impl.BillNone},
		{op(impl.BillFixes, "e1", "", 3), impl.BillNone},
		{op(impl.BillFixes, "", "", 3), impl.BillNone},
		{op(impl.BillFixes, "a", "", -1), impl.BillForm},
		{op(impl.BillFixes, "c", "", 1000000001), impl.BillForm},
	} {
		if _, code, n := checkDo(t, taken(), c.op); code != c.code || n != 0 {
			t.Errorf("case %d: %d %d, not %d", i, code, n, c.code)
		}
	}
	full := fullBill()
	if _, code, _ := checkDo(t, full, op(impl.BillUses, "new", "gb", 1)); code != impl.BillFull {
		t.Error("one event more:", code)
	}
	if _, code, _ := checkDo(t, full, op(impl.BillUses, "e1000", "gb", 0)); code != impl.BillAgain {
		t.Error("an event that is there:", code)
	}
	for _, list := range okLists() {
		b := impl.Bill{Events: list}
		for _, e := range append(wrongEvents(), edgeEvents()...) {
			_, want := putTruth(list, e)
			if _, code, _ := checkDo(t, b, op(impl.BillUses, e.Id, e.Meter, e.Qty)); code != want {
				t.Errorf("%v: %d, not %d", e, code, want)
			}
			checkDo(t, b, op(impl.BillFixes, e.Id, e.Meter, e.Qty))
		}
	}
}

// P10, P11: closes, one with no events, and one with no tariff.
func TestClosesByHand(t *testing.T) {
	b, code, n := checkDo(t, taken(), op(impl.BillCloses, "any", "any", -7))
	want := changed(taken(), func(b *impl.Bill) {
		b.Invoices = append(b.Invoices, invoice(4, 0, b.Events, row("base", 50, 10), row("data", 75, 14), row("extra", 0, 0)))
		b.Events = nil
	})
	if code != impl.BillDone || n != 4 || !sameBill(b, want) || impl.BillDue(b) != impl.BillDue(taken())+149 {
		t.Errorf("%v %d %d, not %v", b, code, n, want)
	}
	b, code, n = checkDo(t, b, op(impl.BillCloses, "", "", 0))
	want.Invoices = append(want.Invoices, invoice(5, 0, nil, row("base", 0, 0), row("data", 0, 0), row("extra", 0, 0)))
	if code != impl.BillDone || n != 5 || !sameBill(b, want) {
		t.Errorf("without events: %v %d %d, not %v", b, code, n, want)
	}
	b.Tariff = nil
	b, code, n = checkDo(t, b, op(impl.BillCloses, "", "", 0))
	want.Tariff, want.Invoices = nil, append(want.Invoices, invoice(6, 0, nil))
	if code != impl.BillDone || n != 6 || !sameBill(b, want) {
		t.Errorf("without a tariff: %v %d %d, not %v", b, code, n, want)
	}
	b, code, n = checkDo(t, impl.Bill{}, op(impl.BillCloses, "", "", 0))
	if code != impl.BillDone || n != 1 || !sameBill(b, impl.Bill{Invoices: []impl.BillInvoice{{No: 1}}}) {
		t.Errorf("of nothing: %v %d %d", b, code, n)
	}
	b, code, n = checkDo(t, impl.Bill{Events: eventsFrom(20), Paid: 9}, op(impl.BillCloses, "", "", 0))
	if code != impl.BillDone || n != 1 || !sameBill(b, impl.Bill{Invoices: []impl.BillInvoice{{No: 1, Events: eventsFrom(20)}}, Paid: 9}) {
		t.Errorf("of events alone: %v %d %d", b, code, n)
	}
}

// P11: as many invoices as there may be, and one more; numbers have no gaps.
func TestClosesUpToTheLimit(t *testing.T) {
	b := impl.Bill{Tariff: []impl.BillLine{line("fee", "10", 5000)}}
	for no := 1; no <= 8; no++ {
		var code, n int
		if b, code, n = checkDo(t, b, op(impl.BillCloses, "", "", 0)); code != impl.BillDone || n != no || len(b.Invoices) != no || b.Invoices[no-1].No != no {
			t.Fatalf("close %d: %v %d %d", no, b, code, n)
		}
	}
	if impl.BillDue(b) != 120 {
		t.Error(impl.BillDue(b))
	}
	if _, code, n := checkDo(t, b, op(impl.BillCloses, "", "", 0)); code != impl.BillFull || n != 0 {
		t.Error("one more:", code, n)
	}
	// BillFull comes ahead of BillOver.
	b.Tariff[0].Rule = "(times 1000000000 1000000000)"
	if _, code, _ := checkDo(t, b, op(impl.BillCloses, "", "", 0)); code != impl.BillFull {
		t.Error("one more that is no amount:", code)
	}
	b.Invoices = b.Invoices[:7]
	if _, code, n := checkDo(t, b, op(impl.BillCloses, "", "", 0)); code != impl.BillOver || n != 0 {
		t.Error("a rule that comes to no amount:", code, n)
	}
}

// What all invoices ask for together is an amount: met exactly, and one more, credits being taken off.
func TestClosesAtTheBoundOfAmounts(t *testing.T) {
	const most = 1000000000000000
	for i, c := range []struct {
		asked, credit, rule, tax int
		code                     int
	}{
		{most, 0, 0, 5000, impl.BillDone},
		{most, 0, 1, 0, impl.BillOver},
		{most, 1, 1, 0, impl.BillDone},
		{most, 1, 2, 0, impl.BillOver},
		{most, most, most, 0, impl.BillDone},
		{most, most, most, 1, impl.BillOver},
		{most, most - 1, most, 0, impl.BillOver},
		{most - 150, 0, 100, 5000, impl.BillDone},
		{most - 149, 0, 100, 5000, impl.BillOver},
		{1, 0, most - 1, 0, impl.BillDone},
		{1, 0, most, 0, impl.BillOver},
	} {
		for _, paid := range []int{0, 5, most} {
			b := impl.Bill{Tariff: linesOf(c.rule, c.tax), Events: eventsFrom(3), Invoices: []impl.BillInvoice{invoice(1, c.credit, nil, row("x", c.asked, 0))}, Paid: paid}
			if _, code, _ := checkDo(t, b, op(impl.BillCloses, "", "", 0)); code != c.code {
				t.Errorf("case %d: %d, not %d", i, code, c.code)
			}
		}
	}
}

// P11, P12: credits, and which code is told.
func TestCreditsByHand(t *testing.T) {
	b := taken()
	for i, c := range []struct {
		no      string
		n       int
		code, k int
	}{
		{"1", 1, impl.BillDone, 199}, {"1", 199, impl.BillDone, 1}, {"1", 200, impl.BillDone, 0}, {"1", 201, impl.BillMuch, 0}, {"1", 208, impl.BillMuch, 0}, {"1", 1000000000000000, impl.BillMuch, 0},
		{"3", 30, impl.BillDone, 0}, {"3", 31, impl.BillMuch, 0}, {"2", 1, impl.BillMuch, 0},
		{"1", 0, impl.BillForm, 0}, {"1", -1, impl.BillForm, 0}, {"1", 1000000000000001, impl.BillForm, 0}, {"1", math.MaxInt, impl.BillForm, 0}, {"1", math.MinInt, impl.BillForm, 0}, {"1", -1000000000000000, impl.BillForm, 0},
		{"4", 1, impl.BillNone, 0}, {"0", 1, impl.BillNone, 0}, {"-1", 1, impl.BillNone, 0}, {"", 1, impl.BillNone, 0}, {"01", 1, impl.BillNone, 0}, {"+1", 1, impl.BillNone, 0}, {"1 ", 1, impl.BillNone, 0}, {" 1", 1, impl.BillNone, 0},
		{"1.0", 1, impl.BillNone, 0}, {"10", 1, impl.BillNone, 0}, {"11", 1, impl.BillNone, 0}, {"001", 1, impl.BillNone, 0}, {"0x1", 1, impl.BillNone, 0}, {"1e0", 1, impl.BillNone, 0}, {"1\n", 1, impl.BillNone, 0}, {"\x01", 1, impl.BillNone, 0}, {"one", 1, impl.BillNone, 0}, {"\u0661", 1, impl.BillNone, 0},
		{"9223372036854775807", 1, impl.BillNone, 0}, {"-9223372036854775808", 1, impl.BillNone, 0}, {"18446744073709551617", 1, impl.BillNone, 0}, {"4294967297", 1, impl.BillNone, 0}, {strings.Repeat("0", 1<<16) + "1", 1, impl.BillNone, 0},
		// The first code as the chapter lists them.
		{"4", 0, impl.BillForm, 0}, {"01", -1, impl.BillForm, 0}, {"", math.MaxInt, impl.BillForm, 0}, {"4", 1000000000000000, impl.BillNone, 0},
	} {
		got, code, k := checkDo(t, b, op(impl.BillCredits, c.no, "any", c.n))
		if code != c.code || k != c.k {
			t.Errorf("case %d, %.20q %d: %d %d, not %d %d", i, c.no, c.n, code, k, c.code, c.k)
		}
		if code == impl.BillDone && impl.BillDue(got) != impl.BillDue(b)-c.n {
			t.Errorf("case %d: due is %d", i, impl.BillDue(got))
		}
	}
}

// P11: what is credited twice is credited up to what was asked for, and no more.
func TestCreditsOfOneInvoice(t *testing.T) {
	b := taken()
	for i, c := range []struct{ n, code, k, credit int }{
		{100, impl.BillDone, 100, 108}, {100, impl.BillDone, 0, 208}, {1, impl.BillMuch, 0, 208}, {100, impl.BillMuch, 0, 208},
	} {
		got, code, k := checkDo(t, b, op(impl.BillCredits, "1", "", c.n))
		if code != c.code || k != c.k || got.Invoices[0].Credit != c.credit {
			t.Errorf("credit %d: %d %d %v", i, code, k, got.Invoices[0])
		}
		b = got
	}
	// Each invoice is found by its own number, the last one too.
	full := fullBill()
	for i := range full.Invoices {
		full.Invoices[i].Credit = 0
	}
	full.Invoices[7] = invoice(8, 0, nil, row("a", 9, 0))
	for i := range full.Invoices {
		got, code, _ := checkDo(t, full, op(impl.BillCredits, strconv.Itoa(i+1), "", 5))
		if code != impl.BillDone || got.Invoices[i].Credit != 5 {
			t.Errorf("invoice %d: %v %d", i+1, got, code)
		}
	}
	if _, code, _ := checkDo(t, full, op(impl.BillCredits, "9", "", 5)); code != impl.BillNone {
		t.Error(code)
	}
}

// P12: payments, also of what is not due yet.
func TestPaysByHand(t *testing.T) {
	const most = 1000000000000000
	for i, c := range []struct {
		paid, n int
		code, k int
	}{
		{50, 1, impl.BillDone, 179}, {50, 180, impl.BillDone, 0}, {50, 181, impl.BillDone, -1}, {0, most, impl.BillDone, 230 - most}, {0, 1, impl.BillDone, 229},
		{most - 1, 1, impl.BillDone, 230 - most}, {most, 1, impl.BillOver, 0}, {most - 1, 2, impl.BillOver, 0}, {1, most, impl.BillOver, 0}, {most, most, impl.BillOver, 0},
		{50, 0, impl.BillForm, 0}, {50, -1, impl.BillForm, 0}, {50, -50, impl.BillForm, 0}, {50, most + 1, impl.BillForm, 0}, {50, math.MaxInt, impl.BillForm, 0}, {50, math.MinInt, impl.BillForm, 0},
		{most, 0, impl.BillForm, 0}, {most, most + 1, impl.BillForm, 0}, {most, -1, impl.BillForm, 0},
	} {
		b := changed(taken(), func(b *impl.Bill) { b.Paid = c.paid })
		got, code, k := checkDo(t, b, op(impl.BillPays, "any", "any", c.n))
		if code != c.code || k != c.k {
			t.Errorf("case %d: %d %d, not %d %d", i, code, k, c.code, c.k)
		}
		if code == impl.BillDone && (got.Paid != c.paid+c.n || impl.BillDue(got) != k) {
			t.Errorf("case %d: %v, due %d", i, got, impl.BillDue(got))
		}
	}
}

// P12.
func TestDueByHand(t *testing.T) {
	for i, c := range []struct {
		b   impl.Bill
		due int
	}{
		{impl.Bill{}, 0}, {taken(), 180}, {impl.Bill{Paid: 7}, -7}, {impl.Bill{Paid: 1000000000000000}, -1000000000000000},
		{impl.Bill{Invoices: []impl.BillInvoice{invoice(1, 0, nil, row("a", 1000000000000000, 0))}}, 1000000000000000},
		{fullBill(), 0}, {changed(fullBill(), func(b *impl.Bill) { b.Paid = 0 }), 1000000000000000},
		{impl.Bill{Paid: -1}, 0}, {changed(taken(), func(b *impl.Bill) { b.Invoices[0].No = 2 }), 0},
	} {
		if got := impl.BillDue(c.b); got != c.due {
			t.Errorf("case %d: %d, not %d", i, got, c.due)
		}
	}
	for i, b := range okBills(t) {
		given := sparedBill(b)
		before := withRoomOf(given)
		if got := impl.BillDue(given); got != dueTruth(b) || !impl.BillOk(given) || !impl.BillSame(given, b) || !reflect.DeepEqual(withRoomOf(given), before) {
			t.Errorf("bill %d: %d, not %d, or an argument was written into", i, got, dueTruth(b))
		}
	}
}

// P9: a Kind that is none, and each call of each kind at each bill.
func TestCallsOfAnyKind(t *testing.T) {
	for _, b := range okBills(t) {
		for _, kind := range []int{0, -1, 8, 9, 10, -7, 1 << 32, 1<<32 + 1, 257, math.MaxInt, math.MinInt} {
			if got, code, n := checkDo(t, b, op(kind, "1", "gb", 1)); code != impl.BillForm || n != 0 || !impl.BillSame(got, b) {
				t.Errorf("kind %d: %v %d %d", kind, got, code, n)
			}
		}
		for _, call := range callsOfEachKind() {
			checkDo(t, b, call)
			for _, n := range append(wrongUnits(), 0, 1, 1000000000, 1000000000000000) {
				call.N = n
				checkDo(t, b, call)
			}
		}
	}
	for _, call := range callsOfEachKind() {
		if _, code, _ := checkDo(t, taken(), call); code != impl.BillDone {
			t.Errorf("%v: %d", call, code)
		}
	}
}

// drawCall is a call that may be done with a bill of drawn parts.
func drawCall(r *rand.Rand, b impl.Bill) impl.BillOp {
	names := []string{"a", "aa", "b", "data", "x", "zzzzzzzz", "other", "if", ""}
	name := names[r.Intn(len(names))]
	e := drawFrom(r, b.Events)
	units := []int{1, r.Intn(300), r.Intn(300), 1000000000000000, r.Intn(1000000000000000), 0, -5, 1000000000000001}[r.Intn(8)]
	kinds := []int{0, impl.BillSets, impl.BillSets, impl.BillSets, impl.BillDrops, impl.BillUses, impl.BillFixes, impl.BillCloses, impl.BillCredits, impl.BillPays, 8}
	switch kind := kinds[r.Intn(len(kinds))]; kind {
	case impl.BillSets:
		if n := len(b.Tariff); n > 0 && r.Intn(4) == 0 {
			l := b.Tariff[r.Intn(n)]
			return op(kind, l.Name, l.Rule, l.Tax)
		}
		return op(kind, name, drawRule(r), []int{0, 1900, r.Intn(5002)}[r.Intn(3)])
	case impl.BillDrops:
		return op(kind, name, "", 0)
	case impl.BillUses:
		return op(kind, e.Id, e.Meter, e.Qty+r.Intn(2))
	case impl.BillFixes:
		return op(kind, e.Id, "", drawQty(r))
	case impl.BillCredits:
		return op(kind, []string{"1", "2", "3", "8", "9", "0", "01", ""}[r.Intn(8)], "", units)
	default:
		return op(kind, "", "", units)
	}
}

// P9 to P12 along many calls.
func TestBillsAlongManyCalls(t *testing.T) {
	r := rand.New(rand.NewSource(42))
	seen := map[[2]int]int{}
	for range 150 {
		b, asked, less := impl.Bill{}, 0, 0
		for range 60 {
			call := drawCall(r, b)
			if len(b.Invoices) == 8 && r.Intn(3) == 0 {
				call = op(impl.BillCloses, "", "", 0)
			}
			got, code, n := checkDo(t, b, call)
			seen[[2]int{call.Kind, code}]++
			b = got
			if code != impl.BillDone {
				continue
			}
			switch call.Kind {
			case impl.BillCloses:
				asked += b.Invoices[n-1].Net + b.Invoices[n-1].Tax
			case impl.BillCredits, impl.BillPays:
				less += call.N
			}
			if impl.BillDue(b) != asked-less {
				t.Fatalf("P12: %d is due of %d less %d", impl.BillDue(b), asked, less)
			}
		}
	}
	for _, want := range [][2]int{
		{impl.BillSets, impl.BillDone}, {impl.BillSets, impl.BillAgain}, {impl.BillSets, impl.BillForm}, {impl.BillSets, impl.BillFull}, {impl.BillDrops, impl.BillDone}, {impl.BillDrops, impl.BillNone},
		{impl.BillUses, impl.BillDone}, {impl.BillUses, impl.BillAgain}, {impl.BillUses, impl.BillOther}, {impl.BillUses, impl.BillForm}, {impl.BillFixes, impl.BillDone}, {impl.BillFixes, impl.BillAgain}, {impl.BillFixes, impl.BillNone},
		{impl.BillCloses, impl.BillDone}, {impl.BillCloses, impl.BillFull}, {impl.BillCloses, impl.BillOver}, {impl.BillCredits, impl.BillDone}, {impl.BillCredits, impl.BillForm}, {impl.BillCredits, impl.BillNone}, {impl.BillCredits, impl.BillMuch},
		{impl.BillPays, impl.BillDone}, {impl.BillPays, impl.BillForm}, {impl.BillPays, impl.BillOver}, {0, impl.BillForm}, {8, impl.BillForm},
	} {
		if seen[want] < 5 {
			t.Errorf("kind %d with code %d came %d times", want[0], want[1], seen[want])
		}
	}
}
