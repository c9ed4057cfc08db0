package tests

import (
	"math"
	"math/rand"
	"regexp"
	"slices"
	"strconv"
	"strings"
	"testing"

	"loop.example/scot/impl"
)

func TestUseBounds(t *testing.T) {
	if impl.UseMax != 20 || impl.UseMaxQty != 1000000000 {
		t.Error(impl.UseMax, impl.UseMaxQty)
	}
	codes := []int{impl.UseNew, impl.UseAgain, impl.UseOther, impl.UseFull, impl.UseForm, impl.UseNone}
	for i, code := range codes {
		if code != i {
			t.Errorf("code %d is %d", i, code)
		}
	}
}

var idForm = regexp.MustCompile(`\A[a-z0-9]{1,8}\z`)

func TestUseId(t *testing.T) {
	words := []string{"", "a", "z", "0", "9", "e1", "1e", "calls", "abcdefgh", "abcdefghi", "12345678", "123456789", "a2c4e6g8", "a2c4e6g8i",
		"A", "Ab", "aB", "a b", " a", "a ", "a\n", "\na", "a-b", "-1", "+1", "1.0", "a_b", "é", "aé", "\u0661", "\uff11", "\x00", "a\x00", "\xff",
		"00000000", "000000000", "zzzzzzzz", "zzzzzzzzz", strings.Repeat("a", 1<<20), strings.Repeat("a", 1<<16) + "!"}
	// Words that are no names of meters name events all the same.
	words = append(words, ruleWords()...)
	for a := range 256 {
		words = append(words, string([]byte{byte(a)}))
		for b := range 256 {
			words = append(words, string([]byte{byte(a), byte(b)}))
		}
		for place := range 8 {
			word := []byte("a1b2c3d4")
			word[place] = byte(a)
			words = append(words, string(word))
		}
	}
	for n := range 20 {
		words = append(words, strings.Repeat("q", n), strings.Repeat("7", n))
	}
	for _, word := range words {
		if got := impl.UseId(word); got != idForm.MatchString(word) {
			t.Errorf("UseId(%.20q) is %v", word, got)
		}
	}
	for _, word := range []string{"a", "0", "add", "tier", "a2c4e6g8", "00000000"} {
		if !impl.UseId(word) {
			t.Errorf("%s names an event", word)
		}
	}
	for _, word := range []string{"", "A", "a2c4e6g8i", "000000000", "a b", "-1"} {
		if impl.UseId(word) {
			t.Errorf("%q names no event", word)
		}
	}
}

func event(id, meter string, qty int) impl.UseEvent {
	return impl.UseEvent{Id: id, Meter: meter, Qty: qty}
}

// eventsFrom is so many right events, ascending, of three meters by turns.
func eventsFrom(count int) []impl.UseEvent {
	meters := []string{"gb", "calls", "disk"}
	list := make([]impl.UseEvent, count)
	for i := range list {
		list[i] = event("e"+strconv.Itoa(1000+i), meters[i%3], 10*i)
	}
	return list
}

// with is a copy of a list with another event at a place.
func with(list []impl.UseEvent, place int, e impl.UseEvent) []impl.UseEvent {
	list = slices.Clone(list)
	list[place] = e
	return list
}

// wrongEvents is events each of which is not right by one part alone.
func wrongEvents() []impl.UseEvent {
	var all []impl.UseEvent
	for _, id := range []string{"", "A", "aB", "a b", "e-1", "123456789", "abcdefghi", "é", "e\x00", "\xff", " e1", "e1 ", "e1\n"} {
		all = append(all, event(id, "gb", 3))
	}
	for _, meter := range append(ruleWords(), "", "A", "gB", "g b", "gb1", "1", "7", "abcdefghi", "é", "gb\x00", "\xff", " gb", "gb ", "gb\n") {
		all = append(all, event("e1", meter, 3))
	}
	for _, qty := range wrongQtys() {
		all = append(all, event("e1", "gb", qty))
	}
	return append(all, impl.UseEvent{})
}

func wrongQtys() []int {
	return []int{-1, -2, -1000000000, 1000000001, 1000000002, 1 << 32, 1<<32 + 1, -1 << 32, 1 << 62, math.MaxInt, math.MaxInt - 1, math.MinInt, math.MinInt + 1}
}

// edgeEvents is right events each of which meets a limit exactly.
func edgeEvents() []impl.UseEvent {
	return []impl.UseEvent{event("a", "a", 0), event("z", "z", 1000000000), event("0", "q", 999999999), event("9", "q", 1), event("a2c4e6g8", "abcdefgh", 1000000000),
		event("00000000", "zzzzzzzz", 0), event("add", "adds", 5), event("tier", "tiers", 6), event("zzzzzzzz", "i", 7)}
}

func rightTruth(e impl.UseEvent) bool {
	return idForm.MatchString(e.Id) && nameTruth(e.Meter) && e.Qty >= 0 && e.Qty <= 1000000000
}

// listTruth is UseOk as the document says it: each event is held against all behind it.
func listTruth(list []impl.UseEvent) bool {
	if len(list) > 20 {
		return false
	}
	for i, e := range list {
		if !rightTruth(e) {
			return false
		}
		for _, behind := range list[i+1:] {
			if strings.Compare(e.Id, behind.Id) >= 0 {
				return false
			}
		}
	}
	return true
}

// wrongLists is lists that are not ok, each for one reason.
func wrongLists() [][]impl.UseEvent {
	all := [][]impl.UseEvent{
		eventsFrom(21), eventsFrom(22), eventsFrom(40), slices.Repeat(eventsFrom(1), 1<<16),
		{event("b", "gb", 1), event("a", "gb", 1)},
		{event("a", "gb", 1), event("a", "gb", 1)},
		{event("a", "gb", 1), event("a", "gb", 2)},
		{event("a", "gb", 1), event("a", "calls", 1)},
		{event("a", "gb", 1), event("b", "gb", 1), event("b", "gb", 1)},
		{event("a", "gb", 1), event("b", "gb", 1), event("a", "gb", 1)},
		{event("a", "gb", 1), event("c", "gb", 1), event("b", "gb", 1)},
		// Byte by byte, neither by numbers nor by sizes, digits ahead of letters.
		{event("9", "gb", 1), event("10", "gb", 1)},
		{event("a", "gb", 1), event("9", "gb", 1)},
		{event("b", "gb", 1), event("aa", "gb", 1)},
		{event("aa", "gb", 1), event("a", "gb", 1)},
		{event("a1", "gb", 1), event("a", "gb", 1)},
		{event("aa", "gb", 1), event("a1", "gb", 1)},
	}
	for _, wrong := range wrongEvents() {
		all = append(all, []impl.UseEvent{wrong}, []impl.UseEvent{event("0", "gb", 1), wrong}, []impl.UseEvent{wrong, event("zz", "gb", 1)}, []impl.UseEvent{event("0", "gb", 1), wrong, event("zz", "gb", 1)})
	}
	full := eventsFrom(20)
	for i := range full {
		e := full[i]
		all = append(all, with(full, i, event(e.Id, e.Meter, -1)), with(full, i, event(e.Id, "if", e.Qty)), with(full, i, event(e.Id+"A", e.Meter, e.Qty)))
		if i > 0 {
			all = append(all, with(full, i, full[i-1]), with(with(full, i, full[i-1]), i-1, e), with(full, i, full[0]))
		}
	}
	return all
}

// okLists is lists that are ok, some of them at limits.
func okLists() [][]impl.UseEvent {
	all := [][]impl.UseEvent{nil, {},
		{event("10", "gb", 1), event("9", "gb", 1), event("a", "gb", 1), event("a1", "gb", 1), event("aa", "gb", 1), event("b", "gb", 1)},
		{event("a", "gb", 0), event("aa", "gb", 0), event("aaaaaaaa", "gb", 0), event("b", "gb", 0)},
		{event("a", "zz", 5), event("b", "m", 4), event("c", "a", 3)},
		{event("a", "gb", 7), event("b", "gb", 7)},
	}
	for count := range 21 {
		all = append(all, eventsFrom(count))
	}
	for _, e := range edgeEvents() {
		all = append(all, []impl.UseEvent{e})
	}
	greatest := eventsFrom(20)
	for i := range greatest {
		greatest[i].Qty = 1000000000
	}
	return append(all, greatest)
}

func TestUseOk(t *testing.T) {
	for _, list := range okLists() {
		if !listTruth(list) {
			t.Fatalf("the test has %v as ok", list)
		}
		if !impl.UseOk(list) {
			t.Errorf("%v is ok", list)
		}
	}
	for _, list := range wrongLists() {
		if listTruth(list) {
			t.Fatalf("the test has %v as not ok", list)
		}
		if impl.UseOk(list) {
			t.Errorf("%v is not ok", list[:min(len(list), 25)])
		}
	}
}

func sumOfEvents(list []impl.UseEvent) int {
	sum := 0
	for _, e := range list {
		sum += e.Qty
	}
	return sum
}

// putTruth is UsePut as the document says it, by a list alone.
func putTruth(list []impl.UseEvent, e impl.UseEvent) ([]impl.UseEvent, int) {
	if !listTruth(list) {
		return nil, 4
	}
	if !rightTruth(e) {
		return list, 4
	}
	for _, old := range list {
		if old.Id == e.Id && old.Meter == e.Meter && old.Qty == e.Qty {
			return list, 1
		}
		if old.Id == e.Id {
			return list, 2
		}
	}
	if len(list) >= 20 {
		return list, 3
	}
	place := 0
	for place < len(list) && list[place].Id < e.Id {
		place++
	}
	return slices.Concat(list[:place], []impl.UseEvent{e}, list[place:]), 0
}

// fixTruth is UseFix as the document says it, by a list alone.
func fixTruth(list []impl.UseEvent, id string, qty int) ([]impl.UseEvent, int) {
	if !listTruth(list) {
		return nil, 4
	}
	if qty < 0 || qty > 1000000000 {
		return list, 4
	}
	for i, old := range list {
		if old.Id != id {
			continue
		}
		if old.Qty == qty {
			return list, 1
		}
		return with(list, i, event(old.Id, old.Meter, qty)), 0
	}
	return list, 5
}

// sumsTruth is UseSums as the document says it: the least name that is not told yet, as long as there is one.
func sumsTruth(list []impl.UseEvent) []impl.RuleUse {
	if !listTruth(list) {
		return nil
	}
	var sums []impl.RuleUse
	last := ""
	for {
		next := ""
		for _, e := range list {
			if e.Meter > last && (next == "" || e.Meter < next) {
				next = e.Meter
			}
		}
		if next == "" {
			return sums
		}
		sum := 0
		for _, e := range list {
			if e.Meter == next {
				sum += e.Qty
			}
		}
		sums = append(sums, impl.RuleUse{Meter: next, Qty: sum})
		last = next
	}
}

// checkAlone asks for a list twice: that nothing is written into the argument or behind its end, and that no answer shares memory with it or with another one.
func checkAlone[T comparable](t *testing.T, list []impl.UseEvent, ask func([]impl.UseEvent) []T) {
	t.Helper()
	spare := event("spare", "spare", 77)
	room := slices.Concat([]impl.UseEvent{spare}, list, []impl.UseEvent{spare, spare, spare})
	before := slices.Clone(room)
	argument := room[1 : 1+len(list)]
	got, other := ask(argument), ask(argument)
	if !slices.Equal(room, before) {
		t.Fatalf("an argument was written into: %v, not %v", room, before)
	}
	kept := slices.Clone(got)
	if !slices.Equal(other, kept) {
		t.Fatalf("asked twice: %v and %v", kept, other)
	}
	for i := range room {
		room[i] = event("x", "x", -55)
	}
	if !slices.Equal(got, kept) {
		t.Fatalf("the answer %v follows its argument: %v", kept, got)
	}
	copy(room, before)
	clear(got[:cap(got)])
	if !slices.Equal(room, before) || !slices.Equal(other, kept) {
		t.Fatalf("writing into an answer turns %v or %v", room, other)
	}
	if again := ask(argument); !slices.Equal(again, kept) {
		t.Fatalf("asked once more: %v, not %v", again, kept)
	}
}

// checkPut holds UsePut against the document, and tells the list behind it and the code.
func checkPut(t *testing.T, list []impl.UseEvent, e impl.UseEvent) ([]impl.UseEvent, int) {
	t.Helper()
	want, wantCode := putTruth(list, e)
	got, code := impl.UsePut(list, e)
	if code != wantCode || !slices.Equal(got, want) {
		t.Errorf("UsePut(%v, %v) is %v %d, not %v %d", list[:min(len(list), 25)], e, got, code, want, wantCode)
	}
	checkAlone(t, list, func(list []impl.UseEvent) []impl.UseEvent { got, _ := impl.UsePut(list, e); return got })
	return got, code
}

func checkFix(t *testing.T, list []impl.UseEvent, id string, qty int) ([]impl.UseEvent, int) {
	t.Helper()
	want, wantCode := fixTruth(list, id, qty)
	got, code := impl.UseFix(list, id, qty)
	if code != wantCode || !slices.Equal(got, want) {
		t.Errorf("UseFix(%v, %q, %d) is %v %d, not %v %d", list[:min(len(list), 25)], id, qty, got, code, want, wantCode)
	}
	checkAlone(t, list, func(list []impl.UseEvent) []impl.UseEvent { got, _ := impl.UseFix(list, id, qty); return got })
	return got, code
}

// checkSums holds UseSums against the document, and against what P8 says of it.
func checkSums(t *testing.T, list []impl.UseEvent) {
	t.Helper()
	want := sumsTruth(list)
	got := impl.UseSums(list)
	if !slices.Equal(got, want) {
		t.Errorf("UseSums(%v) is %v, not %v", list[:min(len(list), 25)], got, want)
	}
	all := 0
	for _, use := range got {
		all += use.Qty
	}
	if listTruth(list) && all != sumOfEvents(list) {
		t.Errorf("UseSums(%v) is %v, together %d, not %d", list, got, all, sumOfEvents(list))
	}
	checkAlone(t, list, impl.UseSums)
}

func TestPutsByHand(t *testing.T) {
	list := []impl.UseEvent{event("b", "gb", 3), event("d", "calls", 7)}
	for i, c := range []struct {
		e    impl.UseEvent
		want []impl.UseEvent
		code int
	}{
		{event("a", "x", 1), []impl.UseEvent{event("a", "x", 1), list[0], list[1]}, impl.UseNew},
		{event("c", "x", 1), []impl.UseEvent{list[0], event("c", "x", 1), list[1]}, impl.UseNew},
		{event("e", "x", 1), []impl.UseEvent{list[0], list[1], event("e", "x", 1)}, impl.UseNew},
		{event("bb", "gb", 3), []impl.UseEvent{list[0], event("bb", "gb", 3), list[1]}, impl.UseNew},
		{event("0", "gb", 0), []impl.UseEvent{event("0", "gb", 0), list[0], list[1]}, impl.UseNew},
		{event("b", "gb", 3), list, impl.UseAgain},
		{event("d", "calls", 7), list, impl.UseAgain},
		{event("b", "gb", 4), list, impl.UseOther},
		{event("b", "calls", 3), list, impl.UseOther},
		{event("b", "calls", 7), list, impl.UseOther},
		{event("d", "calls", 0), list, impl.UseOther},
		{event("B", "gb", 3), list, impl.UseForm},
		{event("b", "if", 3), list, impl.UseForm},
		{event("b", "gb", -3), list, impl.UseForm},
		{impl.UseEvent{}, list, impl.UseForm},
	} {
		got, code := checkPut(t, list, c.e)
		if code != c.code || !slices.Equal(got, c.want) {
			t.Errorf("case %d: %v %d, not %v %d", i, got, code, c.want, c.code)
		}
	}
}

// Which code is told where more than one would fit: the first as the chapter lists them.
func TestPutsTellTheFirstCode(t *testing.T) {
	full := eventsFrom(20)
	for _, i := range []int{0, 7, 19} {
		e := full[i]
		for _, c := range []struct {
			e    impl.UseEvent
			code int
		}{
			{e, impl.UseAgain},
			{event(e.Id, e.Meter, e.Qty+1), impl.UseOther},
			{event(e.Id, "other", e.Qty), impl.UseOther},
			{event(e.Id, e.Meter, -1), impl.UseForm},
			{event(e.Id, "steps", e.Qty), impl.UseForm},
			{event("E1000", e.Meter, e.Qty), impl.UseForm},
			{event("new", "gb", 1), impl.UseFull},
			{event("new", "gb", 1000000001), impl.UseForm},
			{event("0", "gb", 1), impl.UseFull},
		} {
			got, code := checkPut(t, full, c.e)
			if code != c.code || !slices.Equal(got, full) {
				t.Errorf("full, %v: %d, not %d", c.e, code, c.code)
			}
		}
	}
	for _, wrong := range wrongLists() {
		for _, e := range []impl.UseEvent{event("new", "gb", 1), event("NEW", "gb", 1), wrong[0], wrong[len(wrong)-1], {}} {
			if got, code := checkPut(t, wrong, e); len(got) != 0 || code != impl.UseForm {
				t.Errorf("a list that is not ok, %v: %v %d", e, got, code)
			}
		}
	}
}

func TestPutsOfEventsAtTheirBounds(t *testing.T) {
	for _, list := range okLists() {
		for _, e := range edgeEvents() {
			if _, code := checkPut(t, list, e); code == impl.UseForm {
				t.Errorf("%v is right", e)
			}
		}
		for _, e := range wrongEvents() {
			if got, code := checkPut(t, list, e); code != impl.UseForm || !slices.Equal(got, list) {
				t.Errorf("%v is not right: %v %d", e, got, code)
			}
		}
	}
}

// As many events as there may be, and one more, from both ends and from the middle.
func TestPutsUpToTheLimit(t *testing.T) {
	events := eventsFrom(21)
	for _, last := range []int{0, 10, 20} {
		list := []impl.UseEvent(nil)
		for i, e := range slices.Delete(slices.Clone(events), last, last+1) {
			var code int
			if list, code = checkPut(t, list, e); code != impl.UseNew || len(list) != i+1 || !impl.UseOk(list) {
				t.Fatalf("event %d: %v %d", i, list, code)
			}
		}
		got, code := checkPut(t, list, events[last])
		if code != impl.UseFull || !slices.Equal(got, list) || len(got) != 20 {
			t.Errorf("one more: %v %d", got, code)
		}
	}
}

func TestFixesByHand(t *testing.T) {
	list := []impl.UseEvent{event("b", "gb", 3), event("d", "calls", 7)}
	for i, c := range []struct {
		id   string
		qty  int
		want []impl.UseEvent
		code int
	}{
		{"b", 4, []impl.UseEvent{event("b", "gb", 4), list[1]}, impl.UseNew},
		{"d", 3, []impl.UseEvent{list[0], event("d", "calls", 3)}, impl.UseNew},
		{"b", 0, []impl.UseEvent{event("b", "gb", 0), list[1]}, impl.UseNew},
		{"b", 1000000000, []impl.UseEvent{event("b", "gb", 1000000000), list[1]}, impl.UseNew},
		{"b", 3, list, impl.UseAgain},
		{"d", 7, list, impl.UseAgain},
		{"c", 3, list, impl.UseNone},
		{"", 3, list, impl.UseNone},
		{"", 0, list, impl.UseNone},
		{"B", 3, list, impl.UseNone},
		{"gb", 3, list, impl.UseNone},
		{"bb", 3, list, impl.UseNone},
		{"b", -1, list, impl.UseForm},
		{"b", 1000000001, list, impl.UseForm},
		{"c", -1, list, impl.UseForm},
		{"", math.MinInt, list, impl.UseForm},
		{"b", math.MaxInt, list, impl.UseForm},
	} {
		got, code := checkFix(t, list, c.id, c.qty)
		if code != c.code || !slices.Equal(got, c.want) {
			t.Errorf("case %d: %v %d, not %v %d", i, got, code, c.want, c.code)
		}
	}
}

func TestFixesAtTheirBounds(t *testing.T) {
	for _, list := range okLists() {
		ids := []string{"", "none", "NONE", "e", "e100", "e10000", strings.Repeat("e", 1<<10), "\xff"}
		for _, e := range list {
			ids = append(ids, e.Id)
			checkFix(t, list, e.Id, e.Qty)
			checkFix(t, list, e.Id, e.Qty+1)
		}
		for _, id := range ids {
			for _, qty := range append(wrongQtys(), 0, 1, 999999999, 1000000000) {
				checkFix(t, list, id, qty)
			}
		}
	}
	for _, wrong := range wrongLists() {
		for _, id := range []string{"none", "", wrong[0].Id, wrong[len(wrong)-1].Id} {
			for _, qty := range []int{-1, 0, 5, wrong[0].Qty, math.MinInt} {
				if got, code := checkFix(t, wrong, id, qty); len(got) != 0 || code != impl.UseForm {
					t.Errorf("a list that is not ok, %q: %v %d", id, got, code)
				}
			}
		}
	}
}

// P8.
func TestSumsByHand(t *testing.T) {
	greatest := eventsFrom(20)
	for i := range greatest {
		greatest[i] = event(greatest[i].Id, "gb", 1000000000)
	}
	for i, c := range []struct {
		list []impl.UseEvent
		want []impl.RuleUse
	}{
		{nil, nil},
		{[]impl.UseEvent{}, nil},
		{[]impl.UseEvent{event("a", "gb", 0)}, []impl.RuleUse{{Meter: "gb", Qty: 0}}},
		{[]impl.UseEvent{event("a", "gb", 5), event("b", "gb", 0)}, []impl.RuleUse{{Meter: "gb", Qty: 5}}},
		{[]impl.UseEvent{event("a", "z", 1), event("b", "m", 2), event("c", "z", 4), event("d", "a", 8)}, []impl.RuleUse{{Meter: "a", Qty: 8}, {Meter: "m", Qty: 2}, {Meter: "z", Qty: 5}}},
		{[]impl.UseEvent{event("a", "b", 1), event("b", "aa", 2), event("c", "a", 4), event("d", "ab", 8)}, []impl.RuleUse{{Meter: "a", Qty: 4}, {Meter: "aa", Qty: 2}, {Meter: "ab", Qty: 8}, {Meter: "b", Qty: 1}}},
		{greatest, []impl.RuleUse{{Meter: "gb", Qty: 20000000000}}},
	} {
		if got := impl.UseSums(c.list); !slices.Equal(got, c.want) {
			t.Errorf("case %d: %v, not %v", i, got, c.want)
		}
	}
	// As many meters as events, in the order that is not that of the Ids.
	many := eventsFrom(20)
	for i := range many {
		many[i].Meter = string([]byte{'m', byte('z' - i)})
	}
	if got := impl.UseSums(many); len(got) != 20 || got[0] != (impl.RuleUse{Meter: "mg", Qty: 190}) || got[19] != (impl.RuleUse{Meter: "mz", Qty: 0}) {
		t.Error(got)
	}
	checkSums(t, many)
}

// P8: at limits, and none of a list that is not ok.
func TestSumsAtTheirBounds(t *testing.T) {
	for _, list := range okLists() {
		checkSums(t, list)
	}
	for _, list := range wrongLists() {
		checkSums(t, list)
		if got := impl.UseSums(list); len(got) != 0 {
			t.Errorf("UseSums of a list that is not ok is %v", got)
		}
	}
}

// putAll puts events one behind the other, and counts how often each code was told.
func putAll(events []impl.UseEvent) ([]impl.UseEvent, map[int]int) {
	var list []impl.UseEvent
	codes := map[int]int{}
	for _, e := range events {
		var code int
		list, code = impl.UsePut(list, e)
		codes[code]++
	}
	return list, codes
}

// orders calls with each order of the events.
func orders(events []impl.UseEvent, done int, call func([]impl.UseEvent)) {
	if done == len(events) {
		call(events)
		return
	}
	for i := done; i < len(events); i++ {
		events[done], events[i] = events[i], events[done]
		orders(events, done+1, call)
		events[done], events[i] = events[i], events[done]
	}
}

// P7: each order of a few events.
func TestEachOrderLeadsToOneList(t *testing.T) {
	want := []impl.UseEvent{event("10", "gb", 4), event("9", "calls", 4), event("a", "gb", 4), event("a1", "gb", 0), event("aa", "disk", 9), event("b", "calls", 1)}
	orders(slices.Clone(want), 0, func(events []impl.UseEvent) {
		if got, codes := putAll(events); !slices.Equal(got, want) || codes[impl.UseNew] != len(want) {
			t.Fatalf("%v lead to %v, not %v", events, got, want)
		}
	})
	twice := slices.Concat(want[:3], want[:3])
	orders(twice, 0, func(events []impl.UseEvent) {
		if got, codes := putAll(events); !slices.Equal(got, want[:3]) || codes[impl.UseNew] != 3 || codes[impl.UseAgain] != 3 {
			t.Fatalf("%v lead to %v, not %v", events, got, want[:3])
		}
	})
}

// P7: as many events as there may be, each of them some times, in any order.
func TestEventsCountOnceHoweverOftenTheyCome(t *testing.T) {
	r := rand.New(rand.NewSource(31))
	for range 2000 {
		want := drawList(r, r.Intn(21))
		come := slices.Clone(want)
		for range r.Intn(60) {
			if len(want) > 0 {
				come = append(come, want[r.Intn(len(want))])
			}
		}
		r.Shuffle(len(come), func(i, j int) { come[i], come[j] = come[j], come[i] })
		got, codes := putAll(come)
		if !slices.Equal(got, want) {
			t.Fatalf("%v lead to %v, not %v", come, got, want)
		}
		if codes[impl.UseNew] != len(want) || codes[impl.UseAgain] != len(come)-len(want) {
			t.Fatalf("%v: codes %v", come, codes)
		}
		if sum := sumOfEvents(want); sumOfUses(impl.UseSums(got)) != sum {
			t.Fatalf("%v: the sums are not %d", come, sum)
		}
	}
}

func sumOfUses(uses []impl.RuleUse) int {
	sum := 0
	for _, use := range uses {
		sum += use.Qty
	}
	return sum
}

// drawId is an Id out of few, some of which begin with others, so that the same ones come again.
func drawId(r *rand.Rand) string {
	const letters = "019abz"
	word := ""
	for range 1 + r.Intn(3) {
		word += string(letters[r.Intn(len(letters))])
	}
	return word
}

func drawQty(r *rand.Rand) int {
	return []int{0, 1, 2, r.Intn(100), 999999999, 1000000000}[r.Intn(6)]
}

func drawEvent(r *rand.Rand) impl.UseEvent {
	meters := []string{"a", "aa", "ab", "b", "calls", "gb", "zzzzzzzz"}
	return event(drawId(r), meters[r.Intn(len(meters))], drawQty(r))
}

// drawList is so many events, ascending.
func drawList(r *rand.Rand, count int) []impl.UseEvent {
	var list []impl.UseEvent
	for len(list) < count {
		e := drawEvent(r)
		if place, there := slices.BinarySearchFunc(list, e.Id, func(e impl.UseEvent, id string) int { return strings.Compare(e.Id, id) }); !there {
			list = slices.Insert(list, place, e)
		}
	}
	return list
}

// drawFrom is an event of the list, or any other one.
func drawFrom(r *rand.Rand, list []impl.UseEvent) impl.UseEvent {
	if len(list) > 0 && r.Intn(3) > 0 {
		return list[r.Intn(len(list))]
	}
	return drawEvent(r)
}

// P7 and P8 along many puts and fixes: each turns the sum of its meter by just what it says, and no other one.
func TestSumsFollowPutsAndFixes(t *testing.T) {
	r := rand.New(rand.NewSource(32))
	for range 100 {
		list := drawList(r, r.Intn(21))
		for range 30 {
			e, qty := drawFrom(r, list), drawQty(r)
			next, code := checkPut(t, list, e)
			checkTurned(t, list, next, e.Id, e.Qty, code)
			list = next
			next, code = checkFix(t, list, e.Id, qty)
			checkTurned(t, list, next, e.Id, qty, code)
			list = next
		}
	}
}

// checkTurned holds two lists against each other between which the event of that Id, and nothing else, came to that Qty, or nothing at all if there is a code.
func checkTurned(t *testing.T, before, after []impl.UseEvent, id string, qty, code int) {
	t.Helper()
	checkSums(t, after)
	if !impl.UseOk(after) {
		t.Fatalf("%v is not ok", after)
	}
	if code != impl.UseNew && !slices.Equal(before, after) {
		t.Fatalf("code %d, and yet %v came to be %v", code, before, after)
	}
	turned := map[string]int{}
	for _, e := range before {
		turned[e.Meter] -= e.Qty
	}
	for _, e := range after {
		if e.Id == id && code == impl.UseNew && e.Qty != qty {
			t.Fatalf("%v has not %d", e, qty)
		}
		turned[e.Meter] += e.Qty
	}
	for name, by := range turned {
		if got := impl.RuleOf(impl.UseSums(after), name) - impl.RuleOf(impl.UseSums(before), name); got != by {
			t.Fatalf("from %v to %v the sum of %s turned by %d, not %d", before, after, name, got, by)
		}
	}
}

// Lists of any look, most of them nearly ok.
func TestUsageOfManyLists(t *testing.T) {
	r := rand.New(rand.NewSource(33))
	wrong := append(wrongEvents(), edgeEvents()...)
	counts := map[bool]int{}
	for range 20000 {
		list := drawList(r, r.Intn(23))
		for range r.Intn(3) {
			if n := len(list); n > 0 {
				i, j := r.Intn(n), r.Intn(n)
				switch r.Intn(3) {
				case 0:
					list[i] = list[j]
				case 1:
					list[i], list[j] = list[j], list[i]
				case 2:
					list[i] = wrong[r.Intn(len(wrong))]
				}
			}
		}
		ok := listTruth(list)
		counts[ok]++
		if impl.UseOk(list) != ok {
			t.Fatalf("UseOk(%v) is %v", list, !ok)
		}
		e := drawEvent(r)
		if r.Intn(4) == 0 {
			e = wrong[r.Intn(len(wrong))]
		}
		checkPut(t, list, e)
		checkFix(t, list, e.Id, drawQty(r)-r.Intn(2))
		checkSums(t, list)
	}
	if counts[true] < 5000 || counts[false] < 5000 {
		t.Error(counts)
	}
}
