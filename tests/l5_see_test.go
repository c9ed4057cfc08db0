package tests

import (
	"fmt"
	"math"
	"math/rand"
	"reflect"
	"slices"
	"strings"
	"testing"

	"loop.example/scot/impl"
)

func TestSeeBounds(t *testing.T) {
	for i, role := range seeRoles() {
		if role != i+1 {
			t.Errorf("role %d is %d", i+1, role)
		}
	}
	for i, what := range seeWhats() {
		if what != i+1 {
			t.Errorf("what can be asked for as %d is %d", i+1, what)
		}
	}
}

func seeRoles() []int { return []int{impl.SeeOwner, impl.SeeClerk, impl.SeeViewer} }

func seeWhats() []int {
	return []int{impl.SeeInvoice, impl.SeeDue, impl.SeeTariff, impl.SeeUsage, impl.SeeCount}
}

// noRoles is numbers of which none is a role.
func noRoles() []int {
	return []int{0, -1, -2, -3, 4, 5, 6, 257, 258, 259, 1 << 32, 1<<32 + 1, 1<<32 + 2, 1<<32 + 3, -1 << 32, math.MaxInt, math.MaxInt - 1, math.MinInt, math.MinInt + 1, math.MinInt + 2, math.MinInt + 3}
}

// noWhats is numbers as which nothing can be asked for.
func noWhats() []int {
	return []int{0, -1, -2, -3, -4, -5, 6, 7, 8, 257, 261, 1 << 32, 1<<32 + 1, 1<<32 + 5, -1 << 32, math.MaxInt, math.MaxInt - 1, math.MinInt, math.MinInt + 1, math.MinInt + 5}
}

// numbersOf is numbers that may be asked for of a bill: those of its invoices, and some around them and far off.
func numbersOf(b impl.Bill) []int {
	numbers := []int{math.MinInt, math.MinInt + 1, -1 << 32, -1, 0, math.MaxInt, math.MaxInt - 1, 1 << 32, 1<<32 + 1, 257}
	for n := range min(len(b.Invoices), 9) + 3 {
		numbers = append(numbers, n, -n)
	}
	return numbers
}

// seenTruth is SeePart as the document says it.
func seenTruth(b impl.Bill, role int) impl.Bill {
	if !billTruth(b) || role < 1 || role > 3 {
		return impl.Bill{}
	}
	seen := billCopy(b)
	if role == 1 {
		return seen
	}
	seen.Tariff = nil
	if role == 3 {
		seen.Events, seen.Paid = nil, 0
	}
	for i, v := range seen.Invoices {
		both := v.Net + v.Tax
		if role == 3 {
			seen.Invoices[i] = impl.BillInvoice{No: v.No, Net: both - v.Credit, Rows: []impl.BillRow{row("all", both-v.Credit, 0)}}
			continue
		}
		for j, r := range v.Rows {
			v.Rows[j] = row(r.Name, r.Net+r.Tax, 0)
		}
		seen.Invoices[i] = impl.BillInvoice{No: v.No, Net: both, Rows: v.Rows, Credit: v.Credit}
	}
	return seen
}

// units writes an amount that is given with two decimals.
func units(n int) string {
	sign := ""
	if n < 0 {
		sign, n = "-", -n
	}
	return fmt.Sprintf("%s%d.%02d", sign, n/100, n%100)
}

// toldTruth is SeeText as the document says it, by the bill itself and not by what a role sees of it.
func toldTruth(b impl.Bill, role, what, n int) string {
	may := map[int]string{1: "12345", 2: "1245", 3: "15"}[role]
	if !billTruth(b) || what < 1 || what > 5 || !strings.Contains(may, string(rune('0'+what))) {
		return "no"
	}
	words := []string{}
	say := func(more ...any) {
		for _, word := range more {
			words = append(words, fmt.Sprint(word))
		}
	}
	switch what {
	case 1:
		for _, v := range b.Invoices {
			if v.No == n {
				say("invoice", n, units(v.Net+v.Tax-v.Credit))
				if role != 3 {
					say("credit", units(v.Credit))
				}
				for _, r := range v.Rows {
					if role == 1 {
						say(r.Name, units(r.Net), units(r.Tax))
					}
					if role == 2 {
						say(r.Name, units(r.Net+r.Tax))
					}
				}
			}
		}
		if len(words) == 0 {
			say("no")
		}
	case 2:
		say("due", units(dueTruth(b)))
	case 3:
		say("tariff")
		for _, l := range b.Tariff {
			say(l.Name, l.Tax, l.Rule)
		}
	case 4:
		say("usage")
		for _, u := range sumsTruth(b.Events) {
			say(u.Meter, u.Qty)
		}
	case 5:
		say("count", len(b.Invoices))
	}
	return strings.Join(words, " ")
}

// checkSeen holds SeePart against the document and P14, and tells its answer.
func checkSeen(t *testing.T, b impl.Bill, role int) impl.Bill {
	t.Helper()
	want := seenTruth(b, role)
	given := sparedBill(b)
	before := withRoomOf(given)
	got := impl.SeePart(given, role)
	if !sameBill(got, want) {
		t.Fatalf("SeePart(%v, %d) is %v, not %v", b, role, got, want)
	}
	again := impl.SeePart(given, role)
	twice := impl.SeePart(got, role)
	if !impl.BillOk(got) || !sameBill(got, twice) {
		t.Fatalf("P14: SeePart(%v, %d) is %v, and of that %v", b, role, got, twice)
	}
	if !sameBill(got, again) || !reflect.DeepEqual(withRoomOf(given), before) {
		t.Fatalf("SeePart(%v, %d): an argument was written into", b, role)
	}
	checkApart(t, slices.Concat(spansOf(given), spansOf(got), spansOf(again), spansOf(twice))...)
	return got
}

// checkTold holds SeeText against the document and P13, and tells its answer.
func checkTold(t *testing.T, b impl.Bill, role, what, n int) string {
	t.Helper()
	want := toldTruth(b, role, what, n)
	given := sparedBill(b)
	before := withRoomOf(given)
	got := impl.SeeText(given, role, what, n)
	if got != want {
		t.Fatalf("SeeText(%v, %d, %d, %d) is %q, not %q", b, role, what, n, got, want)
	}
	if got != impl.SeeText(given, role, what, n) || !reflect.DeepEqual(withRoomOf(given), before) {
		t.Fatalf("SeeText(%v, %d, %d, %d): an argument was written into", b, role, what, n)
	}
	if impl.BillOk(b) && impl.SeeText(impl.SeePart(b, role), role, what, n) != got {
		t.Fatalf("P13: SeeText(%v, %d, %d, %d) is %q, of what is seen %q", b, role, what, n, got, impl.SeeText(impl.SeePart(b, role), role, what, n))
	}
	return got
}

// allTold is all that a role can be told of a bill, also by numbers that no invoice has.
func allTold(b impl.Bill, role int) []string {
	var all []string
	for n := -1; n <= 10; n++ {
		all = append(all, impl.SeeText(b, role, impl.SeeInvoice, n))
	}
	for what := impl.SeeDue; what <= impl.SeeCount+1; what++ {
		all = append(all, impl.SeeText(b, role, what, 0), impl.SeeText(b, role, what, 1))
	}
	return all
}

// P13, P14: what each role sees of one bill.
func TestSeenByHand(t *testing.T) {
	owner, clerk, viewer := checkSeen(t, taken(), 1), checkSeen(t, taken(), 2), checkSeen(t, taken(), 3)
	if !sameBill(owner, taken()) {
		t.Errorf("an owner sees %v", owner)
	}
	if want := (impl.Bill{
		Events: []impl.UseEvent{event("a", "gb", 3), event("b", "calls", 150)},
		Invoices: []impl.BillInvoice{
			{No: 1, Credit: 8, Net: 208, Rows: []impl.BillRow{{Name: "base", Net: 59}, {Name: "data", Net: 149}}},
			{No: 2},
			{No: 3, Net: 30, Rows: []impl.BillRow{{Name: "data", Net: 30}}},
		},
		Paid: 50,
	}); !sameBill(clerk, want) {
		t.Errorf("a clerk sees %v", clerk)
	}
	if want := (impl.Bill{Invoices: []impl.BillInvoice{
		{No: 1, Net: 200, Rows: []impl.BillRow{{Name: "all", Net: 200}}},
		{No: 2, Rows: []impl.BillRow{{Name: "all"}}},
		{No: 3, Net: 30, Rows: []impl.BillRow{{Name: "all", Net: 30}}},
	}}); !sameBill(viewer, want) {
		t.Errorf("a viewer sees %v", viewer)
	}
	for _, role := range seeRoles() {
		if got := checkSeen(t, impl.Bill{}, role); !sameBill(got, impl.Bill{}) {
			t.Errorf("role %d sees %v of nothing", role, got)
		}
	}
	if got := checkSeen(t, impl.Bill{Tariff: tariffFor(6), Events: eventsFrom(20), Paid: 7}, 3); !sameBill(got, impl.Bill{}) {
		t.Errorf("a viewer sees %v of a bill without invoices", got)
	}
}

// P13: what each role is told of one bill.
func TestToldByHand(t *testing.T) {
	for i, c := range []struct {
		role, what, n int
		want          string
	}{
		{1, 1, 1, "invoice 1 2.00 credit 0.08 base 0.50 0.09 data 1.25 0.24"},
		{2, 1, 1, "invoice 1 2.00 credit 0.08 base 0.59 data 1.49"},
		{3, 1, 1, "invoice 1 2.00"},
		{1, 1, 2, "invoice 2 0.00 credit 0.00"},
		{2, 1, 2, "invoice 2 0.00 credit 0.00"},
		{3, 1, 2, "invoice 2 0.00"},
		{1, 1, 3, "invoice 3 0.30 credit 0.00 data 0.25 0.05"},
		{2, 1, 3, "invoice 3 0.30 credit 0.00 data 0.30"},
		{3, 1, 3, "invoice 3 0.30"},
		{1, 1, 4, "no"}, {2, 1, 4, "no"}, {3, 1, 4, "no"}, {1, 1, 0, "no"}, {2, 1, 0, "no"}, {3, 1, 0, "no"}, {1, 1, -1, "no"}, {2, 1, -1, "no"}, {3, 1, -1, "no"},
		{1, 2, 0, "due 1.80"}, {2, 2, 0, "due 1.80"}, {3, 2, 0, "no"},
		{1, 3, 0, "tariff base 1900 (steps calls 100:0 0:1) data 1900 (times gb 25) extra 700 (max 0 (sub disk 3))"}, {2, 3, 0, "no"}, {3, 3, 0, "no"},
		{1, 4, 0, "usage calls 150 gb 3"}, {2, 4, 0, "usage calls 150 gb 3"}, {3, 4, 0, "no"},
		{1, 5, 0, "count 3"}, {2, 5, 0, "count 3"}, {3, 5, 0, "count 3"},
		{1, 6, 0, "no"}, {2, 6, 0, "no"}, {3, 6, 0, "no"}, {1, 0, 1, "no"}, {2, 0, 1, "no"}, {3, 0, 1, "no"}, {1, -1, 1, "no"},
		{0, 5, 0, "no"}, {4, 5, 0, "no"}, {-1, 5, 0, "no"}, {0, 1, 1, "no"}, {4, 1, 1, "no"},
	} {
		if got := checkTold(t, taken(), c.role, c.what, c.n); got != c.want {
			t.Errorf("case %d: %q, not %q", i, got, c.want)
		}
	}
	for i, c := range []struct {
		role, what int
		want       string
	}{
		{1, 1, "no"}, {1, 2, "due 0.00"}, {1, 3, "tariff"}, {1, 4, "usage"}, {1, 5, "count 0"},
		{2, 1, "no"}, {2, 2, "due 0.00"}, {2, 3, "no"}, {2, 4, "usage"}, {2, 5, "count 0"},
		{3, 1, "no"}, {3, 2, "no"}, {3, 3, "no"}, {3, 4, "no"}, {3, 5, "count 0"},
	} {
		for _, n := range numbersOf(impl.Bill{}) {
			if got := checkTold(t, impl.Bill{}, c.role, c.what, n); got != c.want {
				t.Errorf("case %d of nothing, %d: %q, not %q", i, n, got, c.want)
			}
		}
	}
}

// Amounts at their limits, a bill that was paid too much, and invoices that were credited whole.
func TestToldAtTheLimits(t *testing.T) {
	const most = 1000000000000000
	rich := impl.Bill{Invoices: []impl.BillInvoice{invoice(1, 0, nil, row("a", most-1, 1))}}
	gone := impl.Bill{Invoices: []impl.BillInvoice{invoice(1, most, nil, row("a", 600000000000000, 0), row("b", 0, 400000000000000)), invoice(2, 5, nil, row("b", 4, 1)), invoice(3, 0, nil, row("c", most, 0))}}
	paid := func(b impl.Bill, n int) impl.Bill { return changed(b, func(b *impl.Bill) { b.Paid = n }) }
	for i, c := range []struct {
		b             impl.Bill
		role, what, n int
		want          string
	}{
		{rich, 1, 1, 1, "invoice 1 10000000000000.00 credit 0.00 a 9999999999999.99 0.01"},
		{rich, 2, 1, 1, "invoice 1 10000000000000.00 credit 0.00 a 10000000000000.00"},
		{rich, 3, 1, 1, "invoice 1 10000000000000.00"},
		{rich, 1, 2, 0, "due 10000000000000.00"}, {rich, 2, 2, 0, "due 10000000000000.00"},
		{paid(rich, most), 1, 2, 0, "due 0.00"}, {paid(rich, most-1), 2, 2, 0, "due 0.01"},
		{gone, 1, 1, 1, "invoice 1 0.00 credit 10000000000000.00 a 6000000000000.00 0.00 b 0.00 4000000000000.00"},
		{gone, 2, 1, 1, "invoice 1 0.00 credit 10000000000000.00 a 6000000000000.00 b 4000000000000.00"},
		{gone, 3, 1, 1, "invoice 1 0.00"}, {gone, 3, 1, 2, "invoice 2 0.00"}, {gone, 2, 1, 2, "invoice 2 0.00 credit 0.05 b 0.05"},
		{gone, 2, 1, 3, "invoice 3 10000000000000.00 credit 0.00 c 10000000000000.00"}, {gone, 1, 2, 0, "due 10000000000000.00"}, {gone, 3, 5, 0, "count 3"},
		// The least that can be due of a bill that is ok is just an amount still.
		{impl.Bill{Paid: most}, 1, 2, 0, "due -10000000000000.00"}, {impl.Bill{Paid: most}, 2, 2, 0, "due -10000000000000.00"}, {impl.Bill{Paid: most}, 3, 2, 0, "no"},
		{impl.Bill{Paid: most - 1}, 1, 2, 0, "due -9999999999999.99"}, {impl.Bill{Paid: 1}, 1, 2, 0, "due -0.01"}, {impl.Bill{Paid: 99}, 2, 2, 0, "due -0.99"}, {impl.Bill{Paid: 100}, 2, 2, 0, "due -1.00"}, {impl.Bill{Paid: 110}, 2, 2, 0, "due -1.10"},
		{paid(taken(), 229), 1, 2, 0, "due 0.01"}, {paid(taken(), 230), 1, 2, 0, "due 0.00"}, {paid(taken(), 231), 1, 2, 0, "due -0.01"},
		{impl.Bill{Paid: most + 1}, 1, 2, 0, "no"}, {impl.Bill{Paid: math.MaxInt}, 2, 2, 0, "no"}, {impl.Bill{Paid: -1}, 1, 2, 0, "no"}, {impl.Bill{Paid: math.MinInt}, 1, 2, 0, "no"},
		// Only with a credit above what was asked for could less than any amount be due, and such a bill is not ok.
		{changed(paid(rich, most), func(b *impl.Bill) { b.Invoices[0].Credit = most + 1 }), 1, 2, 0, "no"},
	} {
		if got := checkTold(t, c.b, c.role, c.what, c.n); got != c.want {
			t.Errorf("case %d: %q, not %q", i, got, c.want)
		}
		checkSeen(t, c.b, c.role)
	}
	full := fullBill()
	for i, c := range []struct {
		role, what, n int
		want          string
	}{
		{1, 1, 1, "invoice 1 0.00 credit 2.64 a 1.00 0.00 b 1.00 0.50 c 0.00 0.00 d 0.07 0.03 e 0.01 0.01 zzzzzzzz 0.02 0.00"},
		{2, 1, 1, "invoice 1 0.00 credit 2.64 a 1.00 b 1.50 c 0.00 d 0.10 e 0.02 zzzzzzzz 0.02"},
		{2, 1, 8, "invoice 8 10000000000000.00 credit 0.00 a 6000000000000.00 b 4000000000000.00"},
		{3, 1, 7, "invoice 7 0.00"}, {3, 1, 8, "invoice 8 10000000000000.00"}, {1, 1, 9, "no"}, {2, 1, 9, "no"}, {3, 1, 9, "no"},
		{1, 2, 8, "due 0.00"}, {1, 4, 8, "usage calls 700 disk 570 gb 630"}, {2, 4, 8, "usage calls 700 disk 570 gb 630"}, {3, 5, 8, "count 8"},
		{1, 3, 8, "tariff base 1900 (steps calls 100:0 0:1) data 1900 (times gb 25) extra 700 (max 0 (sub disk 3)) fee 0 500 home 5000 (if gb 77 calls) rest 1900 (part calls 333)"},
	} {
		if got := checkTold(t, full, c.role, c.what, c.n); got != c.want {
			t.Errorf("case %d of a full bill: %q, not %q", i, got, c.want)
		}
	}
}

// P13, P14: each role, each thing that can be asked for, and each number, at each bill that is ok.
func TestSeenAndToldOfOkBills(t *testing.T) {
	for _, b := range okBills(t) {
		for _, role := range seeRoles() {
			checkSeen(t, b, role)
			for _, n := range numbersOf(b) {
				checkTold(t, b, role, impl.SeeInvoice, n)
			}
			for _, what := range seeWhats() {
				for _, n := range []int{math.MinInt, 0, 1, math.MaxInt} {
					checkTold(t, b, role, what, n)
				}
			}
		}
		checkLess(t, b)
	}
}

// checkLess holds that a viewer sees nothing that a clerk does not, and a clerk nothing that an owner does not, but for sums.
func checkLess(t *testing.T, b impl.Bill) {
	t.Helper()
	owner, clerk, viewer := impl.SeePart(b, 1), impl.SeePart(b, 2), impl.SeePart(b, 3)
	for _, c := range []struct {
		from impl.Bill
		role int
		want impl.Bill
	}{{owner, 2, clerk}, {owner, 3, viewer}, {clerk, 3, viewer}, {clerk, 1, clerk}, {viewer, 1, viewer}, {viewer, 2, viewer}} {
		if got := impl.SeePart(c.from, c.role); !sameBill(got, c.want) {
			t.Fatalf("P13: of %v role %d sees %v, not %v", c.from, c.role, got, c.want)
		}
	}
	if told := allTold(b, 3); !slices.Equal(allTold(clerk, 3), told) || !slices.Equal(allTold(owner, 3), told) {
		t.Fatalf("P13: a viewer is told more of %v than what a clerk sees", b)
	}
	if told := allTold(b, 2); !slices.Equal(allTold(owner, 2), told) {
		t.Fatalf("P13: a clerk is told more of %v than what an owner sees", b)
	}
	for n := -1; n <= 10; n++ {
		mine, clerks, owners := impl.SeeText(b, 3, 1, n), impl.SeeText(b, 2, 1, n), impl.SeeText(b, 1, 1, n)
		if !strings.HasPrefix(clerks, mine) || !strings.HasPrefix(owners, mine) {
			t.Fatalf("P13: of invoice %d a viewer is told %q, a clerk %q, an owner %q", n, mine, clerks, owners)
		}
	}
}

// What is not for a role is refused with one text, whatever the bill holds and whatever number is named.
func TestWhatIsNotForARole(t *testing.T) {
	for _, b := range okBills(t) {
		for _, n := range numbersOf(b) {
			for _, c := range [][2]int{{2, 3}, {3, 2}, {3, 3}, {3, 4}} {
				if got := impl.SeeText(b, c[0], c[1], n); got != "no" {
					t.Fatalf("role %d is told %q as %d", c[0], got, c[1])
				}
			}
		}
	}
}

// P14: of a role that is none nothing is seen; as what is none nothing is told.
func TestRolesAndWhatsThatAreNone(t *testing.T) {
	for _, b := range []impl.Bill{{}, taken(), fullBill(), {Paid: -1}} {
		for _, n := range numbersOf(b) {
			for _, role := range noRoles() {
				for what := -1; what <= 7; what++ {
					if got := impl.SeeText(b, role, what, n); got != "no" {
						t.Fatalf("role %d is told %q as %d", role, got, what)
					}
				}
			}
			for _, what := range noWhats() {
				for role := -1; role <= 5; role++ {
					if got := impl.SeeText(b, role, what, n); got != "no" {
						t.Fatalf("role %d is told %q as %d", role, got, what)
					}
				}
			}
		}
		for _, role := range noRoles() {
			if got := checkSeen(t, b, role); !reflect.DeepEqual(got, impl.Bill{}) {
				t.Fatalf("role %d sees %v", role, got)
			}
		}
	}
}

// Of a bill that is not ok, nothing is seen, and all are told alike.
func TestSeenAndToldOfBillsThatAreNotOk(t *testing.T) {
	for i, b := range wrongBills(t) {
		for _, role := range seeRoles() {
			if got := impl.SeePart(b, role); !reflect.DeepEqual(got, impl.Bill{}) {
				t.Fatalf("role %d sees %v of bill %d, which is not ok", role, got, i)
			}
			for _, what := range seeWhats() {
				for _, n := range []int{0, 1, 3} {
					if got := impl.SeeText(b, role, what, n); got != "no" {
						t.Fatalf("role %d is told %q of bill %d, which is not ok", role, got, i)
					}
				}
			}
		}
	}
	for i, b := range wrongBills(t) {
		if i%97 == 0 {
			for role := -1; role <= 4; role++ {
				given := sparedBill(b)
				before := withRoomOf(given)
				impl.SeePart(given, role)
				impl.SeeText(given, role, 1, 1)
				if !reflect.DeepEqual(withRoomOf(given), before) {
					t.Fatalf("bill %d, which is not ok, was written into", i)
				}
			}
		}
	}
}

// checkAlike holds that two bills which differ only in what a role may not see are told to it alike, byte by byte.
func checkAlike(t *testing.T, a, b impl.Bill, role int) {
	t.Helper()
	if !impl.BillOk(a) || !impl.BillOk(b) {
		t.Fatalf("the test has %v or %v as ok", a, b)
	}
	if !impl.BillSame(impl.SeePart(a, role), impl.SeePart(b, role)) {
		t.Fatalf("P13: role %d sees %v, and then %v", role, impl.SeePart(a, role), impl.SeePart(b, role))
	}
	if !slices.Equal(allTold(a, role), allTold(b, role)) {
		t.Fatalf("P13: role %d is told %q, and then %q", role, allTold(a, role), allTold(b, role))
	}
}

// P13: each part that is hidden, turned by itself, shows to those alone who may see it.
func TestWhatIsHiddenDoesNotShow(t *testing.T) {
	base := taken()
	for i, c := range []struct {
		// from is the role from which on, in the order owner, clerk, viewer, the change is hidden.
		from   int
		change func(b *impl.Bill)
	}{
		{2, func(b *impl.Bill) { b.Tariff = nil }},
		{2, func(b *impl.Bill) { b.Tariff = tariffFor(6) }},
		{2, func(b *impl.Bill) { b.Tariff[0].Rule = "77" }},
		{2, func(b *impl.Bill) { b.Tariff[0].Name = "bas" }},
		{2, func(b *impl.Bill) { b.Tariff[2].Tax = 5000 }},
		{2, func(b *impl.Bill) { b.Invoices[0].Events = nil }},
		{2, func(b *impl.Bill) { b.Invoices[1].Events = eventsFrom(20) }},
		{2, func(b *impl.Bill) { b.Invoices[2].Events[0].Qty++ }},
		{2, func(b *impl.Bill) { b.Invoices[0] = invoice(1, 8, nil, row("base", 59, 0), row("data", 0, 149)) }},
		{2, func(b *impl.Bill) { b.Invoices[0] = invoice(1, 8, nil, row("base", 0, 59), row("data", 149, 0)) }},
		{2, func(b *impl.Bill) { b.Invoices[0] = invoice(1, 8, nil, row("base", 51, 8), row("data", 124, 25)) }},
		{2, func(b *impl.Bill) { b.Invoices[2] = invoice(3, 0, nil, row("data", 30, 0)) }},
		{3, func(b *impl.Bill) { b.Events = nil }},
		{3, func(b *impl.Bill) { b.Events = eventsFrom(20) }},
		{3, func(b *impl.Bill) { b.Events[0].Qty++ }},
		{3, func(b *impl.Bill) { b.Events[1].Meter = "x" }},
		{3, func(b *impl.Bill) { b.Paid = 0 }},
		{3, func(b *impl.Bill) { b.Paid = 1000000000000000 }},
		{3, func(b *impl.Bill) { b.Paid++ }},
		{3, func(b *impl.Bill) { b.Invoices[0] = invoice(1, 0, nil, row("x", 200, 0)) }},
		{3, func(b *impl.Bill) { b.Invoices[0] = invoice(1, 8, nil, row("base", 58, 0), row("data", 150, 0)) }},
		{3, func(b *impl.Bill) { b.Invoices[0] = invoice(1, 8, nil, row("base", 59, 0), row("dats", 149, 0)) }},
		{3, func(b *impl.Bill) { b.Invoices[0] = invoice(1, 9, nil, row("base", 50, 9), row("data", 126, 24)) }},
		{3, func(b *impl.Bill) { b.Invoices[0] = invoice(1, 999999999999800, nil, row("z", 1000000000000000, 0)) }},
		{3, func(b *impl.Bill) { b.Invoices[1] = invoice(2, 70, nil, row("base", 50, 20)) }},
		{3, func(b *impl.Bill) { b.Invoices[1] = invoice(2, 0, nil, row("all", 0, 0)) }},
		{3, func(b *impl.Bill) { b.Invoices[1] = invoice(2, 0, nil, row("a", 0, 0), row("b", 0, 0)) }},
		{4, func(b *impl.Bill) { b.Invoices[0].Credit++ }},
		{4, func(b *impl.Bill) { b.Invoices[2] = invoice(3, 0, nil, row("data", 25, 6)) }},
		{4, func(b *impl.Bill) { b.Invoices[2] = invoice(3, 0, nil, row("data", 26, 5)) }},
		{4, func(b *impl.Bill) { b.Invoices = b.Invoices[:2] }},
		{4, func(b *impl.Bill) { b.Invoices = append(b.Invoices, invoice(4, 0, nil)) }},
	} {
		other := changed(base, c.change)
		for _, role := range seeRoles() {
			if role >= c.from {
				checkAlike(t, base, other, role)
			} else if impl.BillSame(impl.SeePart(base, role), impl.SeePart(other, role)) {
				t.Errorf("case %d: role %d does not see what it may", i, role)
			}
		}
	}
}

// P13: a change that a role may see is told to it, where it asks for what the change is in.
func TestWhatIsSeenIsTold(t *testing.T) {
	for i, c := range []struct {
		change  func(b *impl.Bill)
		what, n int
		from    int
	}{
		{func(b *impl.Bill) { b.Tariff[0].Rule = "77" }, impl.SeeTariff, 0, 2},
		{func(b *impl.Bill) { b.Tariff[2].Tax = 5000 }, impl.SeeTariff, 0, 2},
		{func(b *impl.Bill) { b.Tariff = b.Tariff[1:] }, impl.SeeTariff, 0, 2},
		{func(b *impl.Bill) { b.Invoices[0] = invoice(1, 8, nil, row("base", 59, 0), row("data", 0, 149)) }, impl.SeeInvoice, 1, 2},
		{func(b *impl.Bill) { b.Events[0].Qty++ }, impl.SeeUsage, 0, 3},
		{func(b *impl.Bill) { b.Events = nil }, impl.SeeUsage, 0, 3},
		{func(b *impl.Bill) { b.Paid++ }, impl.SeeDue, 0, 3},
		{func(b *impl.Bill) { b.Invoices[0].Credit++ }, impl.SeeDue, 0, 3},
		{func(b *impl.Bill) { b.Invoices[0] = invoice(1, 8, nil, row("base", 58, 0), row("data", 150, 0)) }, impl.SeeInvoice, 1, 3},
		{func(b *impl.Bill) { b.Invoices[0] = invoice(1, 0, nil, row("base", 50, 9), row("data", 117, 24)) }, impl.SeeInvoice, 1, 3},
		{func(b *impl.Bill) { b.Invoices[0].Credit++ }, impl.SeeInvoice, 1, 4},
		{func(b *impl.Bill) { b.Invoices = b.Invoices[:2] }, impl.SeeInvoice, 3, 4},
		{func(b *impl.Bill) { b.Invoices = b.Invoices[:2] }, impl.SeeCount, 0, 4},
	} {
		other := changed(taken(), c.change)
		for _, role := range seeRoles() {
			before, after := checkTold(t, taken(), role, c.what, c.n), checkTold(t, other, role, c.what, c.n)
			if (before == after) != (role >= c.from) {
				t.Errorf("case %d: role %d is told %q, and then %q", i, role, before, after)
			}
		}
	}
}

// drawBill is the bill behind drawn calls.
func drawBill(r *rand.Rand) impl.Bill {
	b := impl.Bill{}
	for range r.Intn(60) {
		b, _, _ = impl.BillDo(b, drawCall(r, b))
	}
	return b
}

// hidden is a bill in which a role may see just what it sees of this one, all else being drawn anew.
func hidden(r *rand.Rand, b impl.Bill, role int) impl.Bill {
	other, b := drawBill(r), billCopy(b)
	if role == impl.SeeOwner {
		return b
	}
	b.Tariff = other.Tariff
	for i := range b.Invoices {
		v := &b.Invoices[i]
		v.Events = drawList(r, r.Intn(21))
		for j, old := range v.Rows {
			net := r.Intn(old.Net + old.Tax + 1)
			v.Rows[j] = row(old.Name, net, old.Net+old.Tax-net)
		}
		if gross := v.Net + v.Tax - v.Credit; role == impl.SeeViewer {
			v.Credit = r.Intn(1000000000000000 - gross + 1)
			net := r.Intn(gross + v.Credit + 1)
			v.Rows = []impl.BillRow{row("a", net, 0), row("b", 0, gross+v.Credit-net)}
		}
		*v = invoice(v.No, v.Credit, v.Events, v.Rows...)
	}
	if role == impl.SeeViewer {
		b.Events, b.Paid = other.Events, other.Paid
	}
	return b
}

// P13, P14 of drawn bills, and of what else may stand where a role does not see.
func TestSeenAndToldOfDrawnBills(t *testing.T) {
	r := rand.New(rand.NewSource(5))
	invoices, unlike := 0, [4]int{}
	for range 250 {
		b := drawBill(r)
		invoices += len(b.Invoices)
		for _, role := range seeRoles() {
			checkSeen(t, b, role)
			for _, what := range seeWhats() {
				checkTold(t, b, role, what, r.Intn(11)-1)
			}
			other := hidden(r, b, role)
			checkAlike(t, b, other, role)
			if !impl.BillSame(b, other) {
				unlike[role]++
			}
		}
		checkLess(t, b)
	}
	if invoices < 250 || unlike[1] > 0 || unlike[2] < 150 || unlike[3] < 150 {
		t.Error("what was drawn is too plain:", invoices, unlike)
	}
}

// A row may have the name that stands for all rows, and is told as any other one.
func TestARowOfTheNameAll(t *testing.T) {
	b := impl.Bill{Invoices: []impl.BillInvoice{invoice(1, 3, nil, row("al", 1, 2), row("all", 5, 6), row("alls", 7, 8))}}
	for i, c := range []struct {
		role int
		want string
	}{{1, "invoice 1 0.26 credit 0.03 al 0.01 0.02 all 0.05 0.06 alls 0.07 0.08"}, {2, "invoice 1 0.26 credit 0.03 al 0.03 all 0.11 alls 0.15"}, {3, "invoice 1 0.26"}} {
		if got := checkTold(t, b, c.role, 1, 1); got != c.want {
			t.Errorf("case %d: %q, not %q", i, got, c.want)
		}
		checkSeen(t, b, c.role)
	}
}
