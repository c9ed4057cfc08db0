package tests

import (
	"fmt"
	"math"
	"math/rand"
	"reflect"
	"runtime"
	"slices"
	"strconv"
	"strings"
	"sync"
	"testing"
	"time"

	"loop.example/scot/impl"
)

const (
	tenantCount = 4
	mostAsked   = 6
	mostLogged  = 40000
	lastClock   = 1000000
)

func TestServeBounds(t *testing.T) {
	if impl.ServeTenants != tenantCount || impl.ServeRate != mostAsked || impl.ServeMaxLog != mostLogged || impl.ServeMaxTime != lastClock {
		t.Error(impl.ServeTenants, impl.ServeRate, impl.ServeMaxLog, impl.ServeMaxTime)
	}
}

// serveKeys is the keys of the tenants; that of the operator is 7.
func serveKeys() []int { return []int{11, 22, 33, 44} }

func opened() impl.Serve { return impl.ServeOpen(7, serveKeys()) }

// sealed is the text of a token of a tenant of opened.
func sealed(tenant, role, until, epoch int) string {
	return impl.SealText(impl.SealMake(serveKeys()[tenant], tenant, role, until, epoch))
}

// by is a text of a tenant of opened, with a token of a role that is good in the first epoch.
func by(tenant, role int, text string) string {
	return fmt.Sprintf("%d %s %s", tenant, sealed(tenant, role, lastTime, 0), text)
}

// in is a text of an owner of opened, with a token that is good in an epoch.
func in(tenant, epoch int, text string) string {
	return fmt.Sprintf("%d %s %s", tenant, sealed(tenant, 1, lastTime, epoch), text)
}

// servedCopy is a copy of a service with memory of its own.
func servedCopy(s impl.Serve) impl.Serve {
	s.Board, s.Parts = slices.Clone(s.Board), slices.Clone(s.Parts)
	for i, p := range s.Parts {
		s.Parts[i].Bill, s.Parts[i].Texts = billCopy(p.Bill), slices.Clone(p.Texts)
	}
	return s
}

// turnedTo is a copy of a service in which something is another.
func turnedTo(s impl.Serve, change func(s *impl.Serve)) impl.Serve {
	s = servedCopy(s)
	change(&s)
	return s
}

func emptied(key int) impl.ServePart { return impl.ServePart{Key: key, Head: firstHead} }

func isKey(n int) bool { return n >= 0 && n <= lastMark }

func partTruthOf(p impl.ServePart) bool {
	return isKey(p.Key) && p.Epoch >= 0 && p.Epoch <= 1000000 && billTruth(p.Bill) && len(p.Texts) <= 400 && p.Head >= 0 && p.Head <= 65520 &&
		len(p.Log) <= 40000 && p.Asked >= 0 && p.Asked <= 6 && p.Refused >= 0 && p.Refused <= 1000000
}

// servedTruth is ServeOk as the document says it.
func servedTruth(s impl.Serve) bool {
	if len(s.Parts) != 4 || s.Clock < 0 || s.Clock > 1000000 || !isKey(s.Key) || !tariffTruth(s.Board) {
		return false
	}
	return !slices.ContainsFunc(s.Parts, func(p impl.ServePart) bool { return !partTruthOf(p) })
}

// committedTruth commits a text to a part as the document says it, and tells the code and the number.
func committedTruth(p *impl.ServePart, text string) (int, int) {
	after, code, n := *p, 0, 0
	if call, ok := readOpTruth(text); ok {
		after.Bill, code, n = doTruth(p.Bill, call)
	} else if text == "rekey" && p.Epoch < 1000000 {
		after.Epoch++
		n = after.Epoch
	} else if text == "rekey" {
		code = 3
	} else {
		code = 4
	}
	after.Texts, after.Head, after.Log = append(slices.Clone(p.Texts), text), mixTruth(p.Head, text), p.Log+frameOf(text)
	if code == 0 && (len(after.Texts) > 400 || len(after.Log) > 40000) {
		code = 3
	}
	if code != 0 {
		return code, 0
	}
	*p = after
	return 0, n
}

// replayTruth is ServeReplay as the document says it.
func replayTruth(key int, texts []string) (impl.ServePart, bool) {
	p := emptied(key)
	if !isKey(key) || len(texts) > 400 {
		return impl.ServePart{}, false
	}
	for _, text := range texts {
		if code, _ := committedTruth(&p, text); code != 0 {
			return impl.ServePart{}, false
		}
	}
	return p, true
}

// tenantTruth turns the part of a tenant by a text of it, and tells what is told, and whether it is refused.
func tenantTruth(s *impl.Serve, tenant int, text string) (string, bool) {
	p := &s.Parts[tenant]
	if p.Asked == 6 {
		return "busy", true
	}
	p.Asked++
	q, ok := readReqTruth(text)
	if !ok {
		return "form", true
	}
	if code := checkTruth(p.Key, tenant, q.Token, s.Clock, p.Epoch); code != 0 {
		return fmt.Sprint("seal ", code), true
	}
	if !mayTruth(q.Token.Role, q) {
		return "right", true
	}
	logged := map[int]string{1: opTextTruth(q.Op), 4: "rekey"}[q.Verb]
	switch q.Verb {
	case 2:
		return toldTruth(p.Bill, q.Token.Role, q.What, q.N), false
	case 3:
		for _, l := range s.Board {
			if l.Name == q.Name {
				logged = fmt.Sprintf("set %s %d %s", l.Name, l.Tax, l.Rule)
			}
		}
	}
	if logged == "" {
		return "none", true
	}
	code, n := committedTruth(p, logged)
	if code != 0 {
		return fmt.Sprint("code ", code), true
	}
	return fmt.Sprint("done ", n), false
}

// askedTruth is ServeAsk as the document says it.
func askedTruth(s impl.Serve, text string) (impl.Serve, string) {
	if !servedTruth(s) {
		return impl.Serve{}, ""
	}
	s = servedCopy(s)
	whose := ofTruth(text)
	switch {
	case !s.Up:
		return s, "down"
	case whose == nobody:
		return s, "nobody"
	case whose == operator:
		post, ok := postedTruth(text)
		if !ok {
			return s, "form"
		}
		if post.Key != s.Key {
			return s, "key"
		}
		b := impl.Bill{Tariff: s.Board}
		code := setTruth(&b, post.Line)
		s.Board = b.Tariff
		return s, fmt.Sprint("posted ", code)
	}
	told, refused := tenantTruth(&s, whose, text)
	if refused {
		s.Parts[whose].Refused = min(s.Parts[whose].Refused+1, 1000000)
	}
	return s, told
}

func tickedTruth(s impl.Serve) impl.Serve {
	if !servedTruth(s) {
		return impl.Serve{}
	}
	return turnedTo(s, func(s *impl.Serve) {
		if s.Clock < 1000000 {
			s.Clock++
		}
		for i := range s.Parts {
			s.Parts[i].Asked = 0
		}
	})
}

func fallenTruth(s impl.Serve) impl.Serve {
	if !servedTruth(s) {
		return impl.Serve{}
	}
	fallen := impl.Serve{Clock: s.Clock, Key: s.Key, Board: slices.Clone(s.Board)}
	for _, p := range s.Parts {
		fallen.Parts = append(fallen.Parts, impl.ServePart{Key: p.Key, Log: p.Log, Head: firstHead})
	}
	return fallen
}

func cutTruth(s impl.Serve, text string, keep int) impl.Serve {
	if !servedTruth(s) {
		return impl.Serve{}
	}
	if !s.Up {
		return servedCopy(s)
	}
	asked, _ := askedTruth(s, text)
	fallen := fallenTruth(asked)
	switch whose := ofTruth(text); {
	case whose == operator && keep <= 0:
		fallen.Board = slices.Clone(s.Board)
	case whose >= 0 && whose < 4:
		p := &fallen.Parts[whose]
		ahead, came := s.Parts[whose].Log, 0
		for len(ahead)+came < len(p.Log) && came < keep {
			came++
		}
		p.Log = p.Log[:len(ahead)+came]
	}
	return fallen
}

func risenTruth(t *testing.T, s impl.Serve) impl.Serve {
	t.Helper()
	if !servedTruth(s) {
		return impl.Serve{}
	}
	s = servedCopy(s)
	for i, p := range s.Parts {
		if s.Up {
			break
		}
		texts, _ := logReadTruth(t, p.Log)
		ok := false
		for first := len(texts); !ok; first-- {
			s.Parts[i], ok = replayTruth(p.Key, texts[:first])
		}
	}
	s.Up = true
	return s
}

// sameServe is ServeSame as the document says it: lists of no length are the same.
func sameServe(a, b impl.Serve) bool { return reflect.DeepEqual(plainServe(a), plainServe(b)) }

func plainServe(s impl.Serve) impl.Serve {
	s.Board, s.Parts = append([]impl.BillLine(nil), s.Board...), append([]impl.ServePart(nil), s.Parts...)
	for i := range s.Parts {
		s.Parts[i] = plainPart(s.Parts[i])
	}
	return s
}

func plainPart(p impl.ServePart) impl.ServePart {
	p.Bill, p.Texts = plain(p.Bill), append([]string(nil), p.Texts...)
	return p
}

func samePart(a, b impl.ServePart) bool { return reflect.DeepEqual(plainPart(a), plainPart(b)) }

// spansOfServe is the memory of all lists of a service.
func spansOfServe(s impl.Serve) []span {
	spans := []span{spanOf(s.Board), spanOf(s.Parts)}
	for _, p := range s.Parts {
		spans = append(append(spans, spanOf(p.Texts)), spansOf(p.Bill)...)
	}
	return spans
}

// sparedServe is a copy of a service each of whose lists has room behind its end.
func sparedServe(s impl.Serve) impl.Serve {
	s.Board, s.Parts = spared(s.Board, line("spare", "77", 77)), spared(s.Parts, emptied(77))
	for i, p := range s.Parts {
		s.Parts[i].Bill, s.Parts[i].Texts = sparedBill(p.Bill), spared(p.Texts, "spare")
	}
	return s
}

// withRoomOfServe is a copy of all that a service holds and has behind the ends of its lists.
func withRoomOfServe(s impl.Serve) impl.Serve {
	s.Board, s.Parts = slices.Clone(s.Board[:cap(s.Board)]), slices.Clone(s.Parts[:cap(s.Parts)])
	for i, p := range s.Parts {
		s.Parts[i].Bill, s.Parts[i].Texts = withRoomOf(p.Bill), slices.Clone(p.Texts[:cap(p.Texts)])
	}
	return s
}

// checkServed holds a call of a service against what it should answer, that its answers own their memory, and that what is ok stays so (P23).
func checkServed(t *testing.T, name string, s, want impl.Serve, wantTold string, do func(impl.Serve) (impl.Serve, string)) (impl.Serve, string) {
	t.Helper()
	given := sparedServe(s)
	before := withRoomOfServe(given)
	got, told := do(given)
	if told != wantTold || !sameServe(got, want) {
		t.Fatalf("%s of %.3000q is %.3000q and %q, not %.3000q and %q", name, fmt.Sprint(s), fmt.Sprint(got), told, fmt.Sprint(want), wantTold)
	}
	again, toldAgain := do(given)
	if !sameServe(again, want) || toldAgain != wantTold || !reflect.DeepEqual(withRoomOfServe(given), before) {
		t.Fatalf("%s: an argument was written into, or the second answer is another one", name)
	}
	checkApart(t, slices.Concat(spansOfServe(given), spansOfServe(got), spansOfServe(again))...)
	if impl.ServeOk(s) != impl.ServeOk(got) {
		t.Fatalf("P23: behind %s of %.3000q the service is not ok: %.3000q", name, fmt.Sprint(s), fmt.Sprint(got))
	}
	return got, told
}

// checkAsk holds ServeAsk against the document, P23 and P25, and tells its answer.
func checkAsk(t *testing.T, s impl.Serve, text string) (impl.Serve, string) {
	t.Helper()
	want, wantTold := askedTruth(s, text)
	name := fmt.Sprintf("ServeAsk %.900q", text)
	got, told := checkServed(t, name, s, want, wantTold, func(s impl.Serve) (impl.Serve, string) { return impl.ServeAsk(s, text) })
	if !impl.ServeOk(s) {
		return got, told
	}
	whose := impl.WireOf(text)
	for i, p := range got.Parts {
		if i != whose && !samePart(p, s.Parts[i]) {
			t.Fatalf("P23: %s turned the part of %d", name, i)
		}
	}
	boardless := turnedTo(got, func(got *impl.Serve) { got.Board = slices.Clone(s.Board) })
	if whose != impl.WireOperator && !slices.Equal(got.Board, s.Board) || got.Clock != s.Clock || got.Key != s.Key || got.Up != s.Up || whose == impl.WireOperator && !sameServe(boardless, s) {
		t.Fatalf("P23: %s turned what is not its own: %v to %v", name, s, got)
	}
	checkRefused25(t, name, s, got, whose, told)
	return got, told
}

// checkRefused25 holds P25: nothing but two counts of one part is turned where nothing is done.
func checkRefused25(t *testing.T, name string, s, got impl.Serve, whose int, told string) {
	t.Helper()
	word, number, _ := strings.Cut(told, " ")
	if word == "done" || word == "posted" && number == "0" {
		return
	}
	uncounted := servedCopy(got)
	if word != "down" && whose >= 0 && whose < tenantCount {
		p, old := &uncounted.Parts[whose], s.Parts[whose]
		refused := slices.Contains([]string{"busy", "form", "seal", "right", "none", "code"}, word)
		if refused && p.Refused != min(old.Refused+1, lastClock) || !refused && p.Refused != old.Refused || p.Asked != min(old.Asked+1, mostAsked) {
			t.Fatalf("P25: %s is told %q, and the counts %d and %d came to be %d and %d", name, told, old.Asked, old.Refused, p.Asked, p.Refused)
		}
		p.Asked, p.Refused = old.Asked, old.Refused
	}
	if !sameServe(uncounted, s) {
		t.Fatalf("P25: %s is told %q, and turned %v to %v", name, told, s, got)
	}
}

func checkTick(t *testing.T, s impl.Serve) impl.Serve {
	t.Helper()
	got, _ := checkServed(t, "ServeTick", s, tickedTruth(s), "", func(s impl.Serve) (impl.Serve, string) { return impl.ServeTick(s), "" })
	return got
}

func checkFall(t *testing.T, s impl.Serve) impl.Serve {
	t.Helper()
	got, _ := checkServed(t, "ServeFall", s, fallenTruth(s), "", func(s impl.Serve) (impl.Serve, string) { return impl.ServeFall(s), "" })
	return got
}

func checkCut(t *testing.T, s impl.Serve, text string, keep int) impl.Serve {
	t.Helper()
	got, _ := checkServed(t, fmt.Sprintf("ServeCut %.900q %d", text, keep), s, cutTruth(s, text, keep), "", func(s impl.Serve) (impl.Serve, string) { return impl.ServeCut(s, text, keep), "" })
	return got
}

func checkRise(t *testing.T, s impl.Serve) impl.Serve {
	t.Helper()
	got, _ := checkServed(t, "ServeRise", s, risenTruth(t, s), "", func(s impl.Serve) (impl.Serve, string) { return impl.ServeRise(s), "" })
	return got
}

// checkReplay holds ServeReplay against the document, and tells its answer.
func checkReplay(t *testing.T, key int, texts []string) (impl.ServePart, bool) {
	t.Helper()
	want, wantOk := replayTruth(key, texts)
	given := spared(texts, "spare")
	before := slices.Clone(given[:cap(given)])
	got, ok := impl.ServeReplay(key, given)
	again, _ := impl.ServeReplay(key, given)
	if ok != wantOk || !samePart(got, want) || !samePart(again, want) {
		t.Fatalf("ServeReplay(%d, %.2000q) is %.2000q %v, not %.2000q %v", key, texts, fmt.Sprint(got), ok, fmt.Sprint(want), wantOk)
	}
	if !slices.Equal(given[:cap(given)], before) {
		t.Fatalf("ServeReplay(%d, %.2000q): an argument was written into", key, texts)
	}
	checkApart(t, slices.Concat([]span{spanOf(given), spanOf(got.Texts), spanOf(again.Texts)}, spansOf(got.Bill), spansOf(again.Bill))...)
	return got, ok
}

// asking asks one text behind the other, and holds what is told.
func asking(t *testing.T, s impl.Serve, texts ...[2]string) impl.Serve {
	t.Helper()
	for i, c := range texts {
		got, told := checkAsk(t, s, c[0])
		if told != c[1] {
			t.Fatalf("text %d, %q, is told %q, not %q", i, c[0], told, c[1])
		}
		s = got
	}
	return s
}

// lively is a service in the midst of its work: a board, parts with invoices and open periods, counts, epochs and a clock.
func lively(t *testing.T) impl.Serve {
	t.Helper()
	s := asking(t, opened(),
		[2]string{"* 7 post base 1900 (steps calls 100:0 1000:2 0:1)", "posted 0"}, [2]string{"* 7 post data 700 (times gb 25)", "posted 0"},
		[2]string{by(0, 1, "adopt base"), "done 0"}, [2]string{by(0, 2, "use e1 calls 1250"), "done 0"}, [2]string{by(0, 1, "close"), "done 1"}, [2]string{by(0, 1, "use e2 calls 7"), "done 0"}, [2]string{by(0, 1, "pay 1000"), "done 1558"},
		[2]string{by(1, 1, "adopt data"), "done 0"}, [2]string{by(1, 1, "rekey"), "done 1"}, [2]string{by(1, 1, "close"), "seal 3"}, [2]string{in(1, 1, "use e1 gb 3"), "done 0"},
		[2]string{by(2, 3, "close"), "right"}, [2]string{by(2, 1, "set fee 0 500"), "done 0"}, [2]string{by(2, 1, "adopt none"), "none"})
	s = checkTick(t, checkTick(t, s))
	return asking(t, s, [2]string{by(0, 1, "credit 1 58"), "done 2500"}, [2]string{"2 x", "form"}, [2]string{by(2, 1, "pay 0"), "code 4"})
}

func TestServedByHand(t *testing.T) {
	s := lively(t)
	p := s.Parts[0]
	if s.Clock != 2 || len(s.Board) != 2 || p.Asked != 1 || p.Refused != 0 || p.Head != impl.ChainHead(p.Texts) || p.Log != logOf(p.Texts) {
		t.Fatal(s)
	}
	if want := []string{"set base 1900 (steps calls 100:0 1000:2 0:1)", "use e1 calls 1250", "close", "use e2 calls 7", "pay 1000", "credit 1 58"}; !slices.Equal(p.Texts, want) {
		t.Fatalf("%q", p.Texts)
	}
	if impl.BillDue(p.Bill) != 1500 || s.Parts[1].Epoch != 1 || s.Parts[1].Refused != 1 || s.Parts[2].Refused != 4 || s.Parts[2].Asked != 2 || !samePart(s.Parts[3], emptied(44)) {
		t.Fatal(s)
	}
}

// The script that the document has as an example, and what it answers.
func TestServedByTheExample(t *testing.T) {
	const own = "0 1.100.0.795086792 "
	s := asking(t, opened(),
		[2]string{"* 7 post base 1900 (steps calls 100:0 1000:2 0:1)", "posted 0"}, [2]string{own + "adopt base", "done 0"}, [2]string{own + "use e1 calls 1250", "done 0"},
		[2]string{"1 1.100.0.795086792 use e1 calls 9", "seal 1"}, [2]string{own + "use e1 calls 1250", "code 1"}, [2]string{own + "close", "done 1"})
	s = asking(t, checkTick(t, s), [2]string{own + "see 1 1", "invoice 1 25.58 credit 0.00 base 21.50 4.08"})
	s = asking(t, checkCut(t, s, own+"pay 1000", 9), [2]string{own + "see 2 0", "down"})
	s = checkRise(t, s)
	if impl.BillDue(s.Parts[0].Bill) != 2558 || !s.Up || s.Clock != 1 {
		t.Fatal(s)
	}
	s = checkRise(t, checkCut(t, s, own+"pay 1000", 99))
	if p := s.Parts[0]; impl.BillDue(p.Bill) != 1558 || p.Head != 38524 || len(p.Texts) != 4 || p.Texts[3] != "pay 1000" {
		t.Fatal(p)
	}
}

// wrongKeys is numbers that are no keys.
func wrongKeys() []int {
	return []int{-1, -2, -11, math.MinInt, math.MinInt + 1, lastMark + 1, lastMark + 2, 2 * lastMark, 1 << 32, 1<<32 + 11, math.MaxInt - 1, math.MaxInt}
}

func checkOpen(t *testing.T, operatorKey int, keys []int) impl.Serve {
	t.Helper()
	want := impl.Serve{Up: true, Key: operatorKey}
	for _, key := range keys {
		want.Parts = append(want.Parts, emptied(key))
	}
	if len(keys) != 4 || !isKey(operatorKey) || slices.ContainsFunc(keys, func(key int) bool { return !isKey(key) }) {
		want = impl.Serve{}
	}
	given := spared(keys, 77)
	before := slices.Clone(given[:cap(given)])
	got, again := impl.ServeOpen(operatorKey, given), impl.ServeOpen(operatorKey, given)
	if !sameServe(got, want) || !sameServe(again, want) || !slices.Equal(given[:cap(given)], before) || impl.ServeOk(got) != want.Up {
		t.Fatalf("ServeOpen(%d, %v) is %v, or an argument was written into", operatorKey, keys[:min(len(keys), 9)], got)
	}
	checkApart(t, slices.Concat([]span{spanOf(given)}, spansOfServe(got), spansOfServe(again))...)
	return got
}

func TestServicesThatAreOpened(t *testing.T) {
	for _, keys := range [][]int{serveKeys(), {0, 0, 0, 0}, {lastMark, 0, lastMark, 1}, {1, 1, 2, 2}} {
		for _, operatorKey := range []int{0, 1, 7, 11, lastMark - 1, lastMark} {
			if s := checkOpen(t, operatorKey, keys); !s.Up || s.Key != operatorKey || len(s.Parts) != 4 || s.Parts[3].Key != keys[3] || s.Parts[0].Head != firstHead {
				t.Errorf("ServeOpen(%d, %v) is %v", operatorKey, keys, s)
			}
		}
		for _, wrong := range wrongKeys() {
			checkOpen(t, wrong, keys)
			for i := range keys {
				checkOpen(t, 7, slices.Concat(keys[:i], []int{wrong}, keys[i+1:]))
			}
		}
	}
	for _, keys := range [][]int{nil, {}, {11}, {11, 22, 33}, {11, 22, 33, 44, 55}, {11, 22, 33, 44, 11, 22, 33, 44}, slices.Repeat([]int{1}, 1<<16)} {
		if s := checkOpen(t, 7, keys); !reflect.DeepEqual(s, impl.Serve{}) {
			t.Errorf("with %d keys there is a service: %v", len(keys), s)
		}
	}
}

// edgeParts is parts that are ok, each meeting a limit exactly.
func edgeParts() []impl.ServePart {
	change := func(change func(p *impl.ServePart)) impl.ServePart {
		p := emptied(11)
		change(&p)
		return p
	}
	return []impl.ServePart{{}, emptied(0), emptied(lastMark),
		change(func(p *impl.ServePart) { p.Epoch = lastTime }), change(func(p *impl.ServePart) { p.Bill = fullBill() }), change(func(p *impl.ServePart) { p.Texts = textsFrom(mostTexts) }),
		change(func(p *impl.ServePart) { p.Head = lastHead }), change(func(p *impl.ServePart) { p.Head = 0 }), change(func(p *impl.ServePart) { p.Log = strings.Repeat("x", mostLogged) }),
		change(func(p *impl.ServePart) { p.Asked = mostAsked }), change(func(p *impl.ServePart) { p.Refused = lastClock }),
		change(func(p *impl.ServePart) { p.Texts = []string{"", "\xff\n", strings.Repeat("x", 1<<16)} }),
		{Key: lastMark, Epoch: lastTime, Bill: fullBill(), Texts: textsFrom(mostTexts), Head: lastHead, Log: strings.Repeat("\n", mostLogged), Asked: mostAsked, Refused: lastClock}}
}

// edgeServices is services that are ok, some at limits, some up and some not, and not all such as come from ServeOpen.
func edgeServices(t *testing.T) []impl.Serve {
	t.Helper()
	busy := lively(t)
	all := []impl.Serve{opened(), busy}
	for _, p := range edgeParts() {
		for place := range tenantCount {
			all = append(all, turnedTo(busy, func(s *impl.Serve) { s.Parts[place] = p }))
		}
	}
	for _, clock := range []int{0, 1, lastClock - 1, lastClock} {
		all = append(all, turnedTo(busy, func(s *impl.Serve) { s.Clock = clock }))
	}
	for _, key := range []int{0, 1, lastMark - 1, lastMark} {
		all = append(all, turnedTo(busy, func(s *impl.Serve) { s.Key = key }))
	}
	for count := range 7 {
		all = append(all, turnedTo(busy, func(s *impl.Serve) { s.Board = tariffFor(count) }))
	}
	for _, edge := range edgeLines(t) {
		all = append(all, turnedTo(busy, func(s *impl.Serve) { s.Board = []impl.BillLine{edge} }))
	}
	for _, s := range slices.Clone(all) {
		all = append(all, turnedTo(s, func(s *impl.Serve) { s.Up = false }), impl.ServeFall(s))
	}
	return all
}

// wrongParts10 is parts that are not ok, each for one reason.
func wrongParts10() []impl.ServePart {
	var all []impl.ServePart
	change := func(change func(p *impl.ServePart)) {
		p := emptied(11)
		change(&p)
		all = append(all, p)
	}
	for _, key := range wrongKeys() {
		change(func(p *impl.ServePart) { p.Key = key })
	}
	for _, epoch := range wrongTimes() {
		change(func(p *impl.ServePart) { p.Epoch = epoch })
	}
	for _, n := range []int{-1, -2, math.MinInt, math.MinInt + 1, 1 << 32, 1<<32 + 1, -1 << 32, math.MaxInt, math.MaxInt - 1} {
		change(func(p *impl.ServePart) { p.Head = n })
		change(func(p *impl.ServePart) { p.Asked = n })
		change(func(p *impl.ServePart) { p.Refused = n })
	}
	change(func(p *impl.ServePart) { p.Head = lastHead + 1 })
	change(func(p *impl.ServePart) { p.Asked = mostAsked + 1 })
	change(func(p *impl.ServePart) { p.Refused = lastClock + 1 })
	for _, count := range []int{mostTexts + 1, mostTexts + 2, 656, 1 << 16} {
		change(func(p *impl.ServePart) { p.Texts = textsFrom(count) })
	}
	for _, size := range []int{mostLogged + 1, mostLogged + 2, 65536, longestLog, longestLog + 1} {
		change(func(p *impl.ServePart) { p.Log = strings.Repeat("x", size) })
	}
	change(func(p *impl.ServePart) { p.Bill.Paid = -1 })
	change(func(p *impl.ServePart) { p.Bill = changed(taken(), func(b *impl.Bill) { b.Invoices[1].No = 3 }) })
	change(func(p *impl.ServePart) { p.Bill = changed(taken(), func(b *impl.Bill) { b.Tariff[0].Rule = "(" }) })
	change(func(p *impl.ServePart) { p.Bill = changed(taken(), func(b *impl.Bill) { b.Events[0].Id = "z" }) })
	return all
}

// wrongServices is services that are not ok, each for one reason.
func wrongServices(t *testing.T) []impl.Serve {
	t.Helper()
	all := []impl.Serve{{}, {Up: true}, {Key: 7}}
	for _, s := range []impl.Serve{lively(t), impl.ServeFall(lively(t))} {
		change := func(change func(s *impl.Serve)) { all = append(all, turnedTo(s, change)) }
		for _, parts := range [][]impl.ServePart{nil, s.Parts[:1], s.Parts[:3], append(slices.Clone(s.Parts), emptied(55)), slices.Repeat(s.Parts, 2), slices.Repeat(s.Parts, 1<<10)} {
			change(func(s *impl.Serve) { s.Parts = parts })
		}
		for _, clock := range wrongTimes() {
			change(func(s *impl.Serve) { s.Clock = clock })
		}
		for _, key := range wrongKeys() {
			change(func(s *impl.Serve) { s.Key = key })
		}
		for _, board := range wrongTariffs(t) {
			change(func(s *impl.Serve) { s.Board = board })
		}
		for _, p := range wrongParts10() {
			for place := range tenantCount {
				change(func(s *impl.Serve) { s.Parts[place] = p })
			}
		}
	}
	busy := lively(t)
	for i, b := range wrongBills(t) {
		all = append(all, turnedTo(busy, func(s *impl.Serve) { s.Parts[i%tenantCount].Bill = b }))
	}
	return all
}

// P23: what is ok is told as it is, and stays so whatever comes.
func TestServicesThatAreOk(t *testing.T) {
	for i, s := range edgeServices(t) {
		if !servedTruth(s) {
			t.Fatalf("the test has service %d as ok: %v", i, s)
		}
		if !impl.ServeOk(s) {
			t.Fatalf("service %d is ok: %v", i, s)
		}
		checkTick(t, s)
		checkFall(t, s)
		checkRise(t, s)
		checkRise(t, checkFall(t, s))
		for _, text := range []string{"", "x", "4 x", "* ", "* 8 post base 0 calls", fmt.Sprintf("* %d post base 0 calls", s.Key), "0 x", by(0, 1, "see 2 0"), by(1, 1, "close"), by(2, 2, "use e9 gb 1"), by(3, 1, "rekey"), in(1, 1, "rekey"), in(0, lastTime, "rekey"), by(0, 1, "adopt base"), by(2, 1, "pay 1")} {
			checkAsk(t, s, text)
			for _, keep := range []int{0, 5, 1 << 20} {
				checkRise(t, checkCut(t, s, text, keep))
			}
		}
	}
}

// Of a service that is not ok all give nothing.
func TestServicesThatAreNotOk(t *testing.T) {
	nothing := impl.Serve{}
	for i, s := range wrongServices(t) {
		if servedTruth(s) {
			t.Fatalf("the test has service %d as not ok: %.900q", i, fmt.Sprint(s))
		}
		if impl.ServeOk(s) {
			t.Fatalf("service %d is not ok: %.900q", i, fmt.Sprint(s))
		}
		for _, text := range []string{"", "x", "* 7 post base 0 calls", "0 x", by(0, 1, "close"), by(3, 1, "pay 1")} {
			if got, told := impl.ServeAsk(s, text); !reflect.DeepEqual(got, nothing) || told != "" {
				t.Fatalf("service %d is asked %q: %v %q", i, text, got, told)
			}
			for _, keep := range []int{-1, 0, 99} {
				if got := impl.ServeCut(s, text, keep); !reflect.DeepEqual(got, nothing) {
					t.Fatalf("service %d is cut: %v", i, got)
				}
			}
		}
		for _, got := range []impl.Serve{impl.ServeTick(s), impl.ServeFall(s), impl.ServeRise(s)} {
			if !reflect.DeepEqual(got, nothing) {
				t.Fatalf("of service %d there is %v", i, got)
			}
		}
	}
}

// Each part counts, and the empty list and the nil list are the same.
func TestServeSame(t *testing.T) {
	base := lively(t)
	all := []impl.Serve{{}, base}
	change := func(change func(s *impl.Serve)) { all = append(all, turnedTo(base, change)) }
	change(func(s *impl.Serve) { s.Up = false })
	change(func(s *impl.Serve) { s.Clock++ })
	change(func(s *impl.Serve) { s.Key++ })
	change(func(s *impl.Serve) { s.Board = nil })
	change(func(s *impl.Serve) { s.Board = s.Board[:1] })
	change(func(s *impl.Serve) { s.Board[0].Tax++ })
	change(func(s *impl.Serve) { s.Board[1].Rule += " " })
	change(func(s *impl.Serve) { s.Board[1].Name += "x" })
	change(func(s *impl.Serve) { s.Parts = nil })
	change(func(s *impl.Serve) { s.Parts = s.Parts[:3] })
	change(func(s *impl.Serve) { s.Parts = append(s.Parts, emptied(55)) })
	change(func(s *impl.Serve) { s.Parts[0], s.Parts[1] = s.Parts[1], s.Parts[0] })
	for place := range tenantCount {
		turn := func(turn func(p *impl.ServePart)) { change(func(s *impl.Serve) { turn(&s.Parts[place]) }) }
		turn(func(p *impl.ServePart) { p.Key++ })
		turn(func(p *impl.ServePart) { p.Epoch++ })
		turn(func(p *impl.ServePart) { p.Bill.Paid++ })
		turn(func(p *impl.ServePart) { p.Bill.Tariff = append(p.Bill.Tariff, line("zz", "1", 1)) })
		turn(func(p *impl.ServePart) { p.Bill.Invoices = append(p.Bill.Invoices, invoice(9, 0, nil)) })
		turn(func(p *impl.ServePart) { p.Texts = append(p.Texts, "") })
		turn(func(p *impl.ServePart) { p.Texts = append(p.Texts, "close") })
		turn(func(p *impl.ServePart) { p.Head-- })
		turn(func(p *impl.ServePart) { p.Log += "\n" })
		turn(func(p *impl.ServePart) { p.Asked++ })
		turn(func(p *impl.ServePart) { p.Refused++ })
		turn(func(p *impl.ServePart) { p.Refused = math.MinInt })
	}
	for i, a := range all {
		for j, b := range all {
			if got := impl.ServeSame(a, servedCopy(b)); got != (i == j) {
				t.Errorf("ServeSame of %d and %d is %v", i, j, got)
			}
		}
	}
	empty := turnedTo(opened(), func(s *impl.Serve) {
		s.Board = []impl.BillLine{}
		s.Parts[1].Texts, s.Parts[2].Bill = []string{}, impl.Bill{Tariff: []impl.BillLine{}, Events: []impl.UseEvent{}, Invoices: []impl.BillInvoice{}}
	})
	if !impl.ServeSame(empty, opened()) || !impl.ServeSame(opened(), empty) || !impl.ServeSame(impl.Serve{Parts: []impl.ServePart{}}, impl.Serve{}) {
		t.Error("an empty list is not a nil list")
	}
	for i, s := range append(edgeServices(t), wrongServices(t)...) {
		if i%5 > 0 {
			continue
		}
		given := sparedServe(s)
		before := withRoomOfServe(given)
		if !impl.ServeSame(given, servedCopy(s)) || impl.ServeSame(given, turnedTo(s, func(s *impl.Serve) { s.Up = !s.Up })) || !reflect.DeepEqual(withRoomOfServe(given), before) {
			t.Fatalf("service %d is not the same as itself, or is as another one, or was written into", i)
		}
	}
}

// What is told of one text, for each reason to refuse it.
func TestToldOfOneText(t *testing.T) {
	s := lively(t)
	forged := func(tenant int, shown impl.SealToken, text string) string {
		return fmt.Sprintf("%d %s %s", tenant, impl.SealText(shown), text)
	}
	own := impl.SealMake(11, 0, 1, 2, 0)
	late, foreign, viewer := own, own, own
	late.Until, foreign.Mac, viewer.Role = 3, (own.Mac+1)%(lastMark+1), 3
	for _, c := range [][2]string{
		{"", "nobody"}, {"x", "nobody"}, {"0", "nobody"}, {"*", "nobody"}, {"4 x", "nobody"}, {" 0 x", "nobody"}, {"00 x", "nobody"}, {"-1 x", "nobody"}, {strings.Repeat("x", 1<<16), "nobody"},
		{"* ", "form"}, {"* x", "form"}, {"* 7", "form"}, {"* 7 post", "form"}, {"* 7 post base 1900", "form"}, {"* 7 post base 5001 calls", "form"}, {"* 7 post base -1 calls", "form"}, {"* 7 post if 0 calls", "form"}, {"* 7 post base 0 (calls", "form"}, {"* 07 post base 0 calls", "form"}, {"* -7 post base 0 calls", "form"}, {"* 8 post base 0 calls ", "form"}, {"* 7 drop base", "form"}, {"* 100000000000000000 post base 0 calls", "form"},
		{"* 8 post base 0 calls", "key"}, {"* 0 post base 0 calls", "key"}, {"* 11 post base 0 calls", "key"}, {"* 99999999999999999 post base 0 calls", "key"}, {"* 8 post base 1900 (steps calls 100:0 1000:2 0:1)", "key"},
		{"* 7 post base 1900 (steps calls 100:0 1000:2 0:1)", "posted 1"}, {"* 7 post base 1901 (steps calls 100:0 1000:2 0:1)", "posted 0"}, {"* 7 post a 0 a", "posted 0"}, {"* 7 post zz 5000 0", "posted 0"},
		{"0 ", "form"}, {"0 x", "form"}, {"3  ", "form"}, {"0 0.0.0.0 close", "form"}, {by(0, 1, "fly"), "form"}, {by(0, 1, "close "), "form"}, {by(0, 1, "pay 01"), "form"}, {by(0, 1, "set a 0 "), "form"}, {by(0, 1, "post base 0 calls"), "form"}, {"0 " + strings.Repeat("x", 1<<16), "form"},
		{forged(0, own, "see 2 0"), "due 15.00"}, {forged(0, late, "see 2 0"), "seal 1"}, {forged(0, foreign, "see 2 0"), "seal 1"}, {forged(0, viewer, "see 5 0"), "seal 1"}, {forged(1, own, "see 2 0"), "seal 1"}, {forged(1, own, "fly"), "form"},
		{forged(0, impl.SealMake(11, 0, 1, 1, 0), "see 2 0"), "seal 2"}, {forged(0, impl.SealMake(11, 0, 1, 0, 0), "close"), "seal 2"}, {forged(0, impl.SealMake(11, 0, 1, 1, 1), "see 2 0"), "seal 3"}, {forged(0, impl.SealMake(11, 0, 1, 100, lastTime), "close"), "seal 3"}, {forged(1, impl.SealMake(22, 1, 1, 1, 0), "close"), "seal 3"}, {forged(1, impl.SealMake(22, 1, 1, 1, 1), "close"), "seal 2"}, {forged(0, impl.SealMake(11, 1, 1, 100, 0), "close"), "seal 1"}, {forged(0, impl.SealMake(22, 0, 1, 100, 0), "close"), "seal 1"}, {forged(0, impl.SealMake(7, 0, 1, 100, 0), "close"), "seal 1"},
		// Of several reasons the first is told: seal ahead of right, right ahead of none and of any code.
		{forged(0, impl.SealMake(11, 0, 3, 1, 0), "close"), "seal 2"}, {by(1, 3, "close"), "seal 3"}, {by(0, 3, "adopt nothing"), "right"}, {by(0, 2, "adopt nothing"), "right"}, {by(0, 2, "pay 0"), "right"}, {by(0, 3, "use e1 calls 0"), "right"},
		{by(0, 3, "close"), "right"}, {by(0, 3, "use e9 gb 1"), "right"}, {by(0, 3, "fix e2 1"), "right"}, {by(0, 3, "rekey"), "right"}, {by(0, 3, "adopt base"), "right"}, {by(0, 2, "set a 0 a"), "right"}, {by(0, 2, "drop base"), "right"}, {by(0, 2, "close"), "right"}, {by(0, 2, "credit 1 1"), "right"}, {by(0, 2, "pay 1"), "right"}, {by(0, 2, "adopt base"), "right"}, {by(0, 2, "rekey"), "right"},
		{by(0, 1, "see 1 1"), "invoice 1 25.00 credit 0.58 base 21.50 4.08"}, {by(0, 2, "see 1 1"), "invoice 1 25.00 credit 0.58 base 25.58"}, {by(0, 3, "see 1 1"), "invoice 1 25.00"}, {by(0, 1, "see 1 2"), "no"}, {by(0, 3, "see 2 0"), "no"}, {by(0, 2, "see 3 0"), "no"}, {by(0, 1, "see 0 0"), "no"}, {by(0, 1, "see 6 0"), "no"}, {by(0, 1, "see 3 0"), "tariff base 1900 (steps calls 100:0 1000:2 0:1)"}, {by(0, 2, "see 4 0"), "usage calls 7"}, {by(0, 3, "see 5 -9"), "count 1"}, {in(1, 1, "see 3 0"), "tariff data 700 (times gb 25)"}, {by(3, 1, "see 4 0"), "usage"},
		{by(0, 1, "adopt nothing"), "none"}, {by(0, 1, "adopt bas"), "none"}, {by(0, 1, "adopt based"), "none"}, {by(0, 1, "adopt a"), "none"}, {by(0, 1, "adopt zz"), "none"}, {by(0, 1, "adopt !"), "none"}, {by(3, 1, "adopt fee"), "none"},
		{by(0, 1, "adopt base"), "code 1"}, {by(0, 1, "adopt data"), "done 0"}, {by(2, 1, "adopt base"), "done 0"},
		{by(0, 1, "set base 1900 (steps calls 100:0 1000:2 0:1)"), "code 1"}, {by(0, 1, "set base 5001 calls"), "code 4"}, {by(0, 1, "set base 0 (calls"), "code 4"}, {by(0, 1, "set ! 0 calls"), "code 4"}, {by(0, 1, "drop data"), "code 5"}, {by(0, 1, "drop base"), "done 0"}, {by(0, 2, "use e2 calls 7"), "code 1"}, {by(0, 1, "use e2 calls 8"), "code 2"}, {by(0, 1, "use E 1 1"), "code 4"}, {by(0, 1, "use E gb 1"), "code 4"}, {by(0, 2, "use e1 calls 1"), "done 0"}, {by(0, 2, "fix e2 9"), "done 0"}, {by(0, 1, "fix e2 7"), "code 1"}, {by(0, 1, "fix e1 7"), "code 5"}, {by(0, 1, "close"), "done 2"}, {in(1, 1, "close"), "done 1"}, {by(0, 1, "credit 1 2500"), "done 0"}, {by(0, 1, "credit 1 2501"), "code 7"}, {by(0, 1, "credit 2 1"), "code 5"}, {by(0, 1, "credit 1 0"), "code 4"}, {by(0, 1, "pay 1600"), "done -100"}, {by(0, 1, "pay -1"), "code 4"}, {by(0, 1, "pay 1000000000000000"), "code 6"},
		{by(0, 1, "rekey"), "done 1"}, {in(1, 1, "rekey"), "done 2"}, {by(1, 1, "rekey"), "seal 3"},
	} {
		if _, told := checkAsk(t, s, c[0]); told != c[1] {
			t.Errorf("%q is told %q, not %q", c[0], told, c[1])
		}
		if _, told := checkAsk(t, impl.ServeFall(s), c[0]); told != "down" {
			t.Errorf("while it is down, %q is told %q", c[0], told)
		}
	}
}

// A tenant has its requests between two ticks, whatever they are, and no other one's.
func TestRequestsBetweenTicks(t *testing.T) {
	for _, text := range []string{by(1, 1, "see 2 0"), by(1, 1, "use e1 gb 1"), by(1, 3, "close"), "1 x", "1 " + strings.Repeat("x", 1000), by(1, 1, "adopt nothing"), by(1, 1, "pay 0"), "1 1.50.0.7 close", by(1, 1, "rekey"), by(1, 1, "pay 1")} {
		s := opened()
		for i := range mostAsked {
			got, told := checkAsk(t, s, text)
			if told == "busy" || got.Parts[1].Asked != i+1 {
				t.Fatalf("request %d, %q, is told %q", i+1, text, told)
			}
			s = got
		}
		before := s.Parts[1]
		for i := range 3 {
			s = asking(t, s, [2]string{text, "busy"}, [2]string{"1 y", "busy"}, [2]string{by(1, 3, "see 5 0"), "busy"})
			if p := s.Parts[1]; p.Refused != before.Refused+3*i+3 || p.Asked != mostAsked {
				t.Fatal(p)
			}
		}
		s = asking(t, s, [2]string{by(0, 1, "see 2 0"), "due 0.00"}, [2]string{by(3, 1, "pay 1"), "done -1"}, [2]string{"* 7 post a 0 a", "posted 0"})
		s = checkTick(t, s)
		if got, told := checkAsk(t, s, text); told == "busy" || got.Parts[1].Asked != 1 || got.Parts[0].Asked != 0 {
			t.Fatalf("behind a tick %q is told %q", text, told)
		}
		// A fall takes the counts away too.
		if got, told := checkAsk(t, checkRise(t, checkFall(t, s)), in(1, s.Parts[1].Epoch, "see 5 0")); told != "count 0" || got.Parts[1].Asked != 1 || got.Parts[1].Refused != 0 {
			t.Fatalf("behind a fall it is told %q: %v", told, got.Parts[1])
		}
	}
	// What is told while power is down is no request.
	s := checkFall(t, opened())
	for range 2 * mostAsked {
		s = asking(t, s, [2]string{by(1, 1, "pay 1"), "down"}, [2]string{"1 x", "down"}, [2]string{"x", "down"}, [2]string{"* 7 post a 0 a", "down"})
	}
	if !sameServe(s, impl.ServeFall(opened())) {
		t.Fatal(s)
	}
	// The operator has no such bound.
	s = opened()
	for i := range 3 * mostAsked {
		s = asking(t, s, [2]string{fmt.Sprintf("* 7 post a 0 %d", i), "posted 0"}, [2]string{"* x", "form"}, [2]string{"* 8 post a 0 1", "key"}, [2]string{"x", "nobody"})
	}
}

// The clock and the counts end at their bound.
func TestTheClockAndTheCountsAtTheirBounds(t *testing.T) {
	for _, up := range []bool{true, false} {
		s := turnedTo(lively(t), func(s *impl.Serve) {
			s.Up, s.Clock = up, lastClock-2
			for i := range s.Parts {
				s.Parts[i].Asked = i + 3
			}
		})
		for _, clock := range []int{lastClock - 1, lastClock, lastClock, lastClock} {
			s = checkTick(t, s)
			if s.Clock != clock || s.Up != up || s.Parts[0].Asked != 0 || s.Parts[3].Asked != 0 {
				t.Fatal(s.Clock, s.Parts)
			}
		}
	}
	for _, refused := range []int{lastClock - 2, lastClock - 1, lastClock} {
		for _, c := range [][2]string{{"1 x", "form"}, {"1 1.50.0.7 close", "seal 1"}, {in(1, 1, "adopt nothing"), "none"}, {in(1, 1, "pay 0"), "code 4"}, {"1 " + sealed(1, 3, lastTime, 1) + " close", "right"}} {
			s := turnedTo(lively(t), func(s *impl.Serve) {
				s.Parts[1].Refused, s.Parts[2].Asked, s.Parts[2].Refused = refused, mostAsked, refused
			})
			s = asking(t, s, c, [2]string{by(2, 1, "see 2 0"), "busy"}, [2]string{in(1, 1, "see 2 0"), "due 0.00"})
			if want := min(refused+1, lastClock); s.Parts[1].Refused != want || s.Parts[2].Refused != want {
				t.Fatal(s.Parts[1].Refused, s.Parts[2].Refused)
			}
		}
	}
	// A token is good up to its last tick, also at the bound of the clock.
	s := turnedTo(opened(), func(s *impl.Serve) { s.Clock = lastClock })
	asking(t, s, [2]string{"0 " + sealed(0, 1, lastTime, 0) + " pay 1", "done -1"}, [2]string{"0 " + sealed(0, 1, lastTime-1, 0) + " pay 1", "seal 2"})
}

// Epochs go up to their bound, and then no farther.
func TestEpochsAtTheirBound(t *testing.T) {
	s := turnedTo(opened(), func(s *impl.Serve) { s.Parts[2].Epoch = lastTime - 2 })
	s = asking(t, s, [2]string{in(2, lastTime-2, "rekey"), "done 999999"}, [2]string{in(2, lastTime-2, "rekey"), "seal 3"}, [2]string{in(2, lastTime-1, "rekey"), "done 1000000"}, [2]string{in(2, lastTime, "rekey"), "code 3"}, [2]string{in(2, lastTime, "pay 5"), "done -5"})
	if p := s.Parts[2]; p.Epoch != lastTime || p.Refused != 2 || !slices.Equal(p.Texts, []string{"rekey", "rekey", "pay 5"}) {
		t.Fatal(p)
	}
	// The epoch is what the log makes of it.
	s = checkRise(t, checkFall(t, s))
	asking(t, s, [2]string{in(2, 1, "see 2 0"), "seal 3"}, [2]string{in(2, 2, "see 2 0"), "due -0.05"})
}

// filled is a service whose tenant 3 has so many texts.
func filled(t *testing.T, count int) impl.Serve {
	t.Helper()
	var texts []string
	for i := range count {
		texts = append(texts, []string{"pay 1", "rekey", "set a 0 " + strconv.Itoa(i), "pay 2"}[i%4])
	}
	p, ok := checkReplay(t, 44, texts)
	if !ok || len(p.Texts) != count || p.Log != logOf(texts) || p.Head != impl.ChainHead(texts) {
		t.Fatal(count, ok)
	}
	return turnedTo(lively(t), func(s *impl.Serve) { s.Parts[3] = p })
}

func TestTextsUpToTheirBound(t *testing.T) {
	epoch := mostTexts / 4
	last := filled(t, mostTexts-1)
	full := asking(t, last, [2]string{in(3, epoch, "pay 1"), "done -299"})
	if p := full.Parts[3]; len(p.Texts) != mostTexts || p.Head != impl.ChainHead(p.Texts) || p.Log != logOf(p.Texts) {
		t.Fatal(p)
	}
	for _, c := range [][3]string{
		{"pay 1", "done -299", "code 3"}, {"rekey", "done 101", "code 3"}, {"use e1 gb 1", "done 0", "code 3"}, {"close", "done 1", "code 3"}, {"adopt base", "done 0", "code 3"}, {"adopt data", "done 0", "code 3"}, {"drop a", "done 0", "code 3"},
		// What has another code has it still where there is no room, and what is not logged needs none.
		{"pay 0", "code 4", "code 4"}, {"drop b", "code 5", "code 5"}, {"adopt nothing", "none", "none"}, {"credit 1 1", "code 5", "code 5"}, {"fly", "form", "form"}, {"see 2 0", "due -2.98", "due -2.99"},
	} {
		text := in(3, epoch, c[0])
		asking(t, last, [2]string{text, c[1]})
		asking(t, full, [2]string{text, c[2]}, [2]string{by(0, 1, "pay 1"), "done 1499"})
		if fallen := checkCut(t, full, text, 99); fallen.Parts[3].Log != full.Parts[3].Log {
			t.Errorf("%q, for which there is no room, came behind the log", text)
		}
	}
	if p := checkRise(t, checkFall(t, full)).Parts[3]; !slices.Equal(p.Texts, full.Parts[3].Texts) || p.Head != full.Parts[3].Head || p.Epoch != epoch {
		t.Error("behind a rise not all texts are there")
	}
	// Of a log with more texts the first ones count.
	s := checkFall(t, filled(t, mostTexts))
	s.Parts[3].Log += impl.LogFrame("pay 5") + impl.LogFrame("pay 6")
	if risen := checkRise(t, s); len(risen.Parts[3].Texts) != mostTexts || slices.Contains(risen.Parts[3].Texts, "pay 5") || risen.Parts[3].Log+impl.LogFrame("pay 5")+impl.LogFrame("pay 6") != s.Parts[3].Log {
		t.Error("of too many texts not just the first are there")
	}
}

// replayable is texts that can be replayed and whose frames have just so many bytes together.
func replayable(t *testing.T, size int) []string {
	t.Helper()
	var texts []string
	ruled := func(name string, n, size int) string {
		return fmt.Sprintf("set %s %d %s", name, n, impl.RuleText(exprOfSize(t, size)))
	}
	left := size
	for i := 1; left > 1230; i++ {
		text := ruled("a", i, 480)
		texts, left = append(texts, text), left-len(frameOf(text))
	}
	for half := left / 2; half > left/2-40; half-- {
		first := ruled("b", 0, half)
		for rest := left - len(frameOf(first)) - 15; rest > left-len(frameOf(first))-25; rest-- {
			if second := ruled("c", 0, rest); len(frameOf(first))+len(frameOf(second)) == left {
				return append(texts, first, second)
			}
		}
	}
	t.Fatalf("no texts of %d bytes were found", size)
	return nil
}

func TestLogsUpToTheirBound(t *testing.T) {
	for _, size := range []int{mostLogged - 1, mostLogged} {
		if p, ok := checkReplay(t, 11, replayable(t, size)); !ok || len(p.Log) != size {
			t.Fatalf("texts of %d bytes are replayed: %v", size, ok)
		}
	}
	for _, size := range []int{mostLogged + 1, mostLogged + 2, mostLogged + 1000} {
		texts := replayable(t, size)
		if p, ok := checkReplay(t, 11, texts); ok || !samePart(p, impl.ServePart{}) {
			t.Fatalf("texts of %d bytes are replayed", size)
		}
		if _, ok := checkReplay(t, 11, texts[:len(texts)-2]); !ok {
			t.Fatal("the first texts are not replayed")
		}
	}
	for _, text := range []string{"pay 1", "rekey", "close", "use e1 gb 1000", "drop b", "adopt base"} {
		logged := text
		if text == "adopt base" {
			logged = "set base 1900 (steps calls 100:0 1000:2 0:1)"
		}
		room := len(frameOf(logged))
		for _, off := range []int{-1, 0, 1, 2, room - 1, room} {
			p, _ := impl.ServeReplay(11, replayable(t, mostLogged-room+off))
			s := turnedTo(lively(t), func(s *impl.Serve) { s.Parts[0] = p })
			got, told := checkAsk(t, s, by(0, 1, text))
			if off <= 0 && (told[:4] != "done" || len(got.Parts[0].Log) != mostLogged+off) || off > 0 && (told != "code 3" || got.Parts[0].Log != p.Log) {
				t.Errorf("with %d bytes %q is told %q", len(p.Log), text, told)
			}
			if _, told := checkAsk(t, s, by(0, 1, "pay 0")); told != "code 4" {
				t.Errorf("with %d bytes a call that is refused is told %q", len(p.Log), told)
			}
			risen := checkRise(t, checkCut(t, s, by(0, 1, text), 1000))
			if risen.Parts[0].Log != got.Parts[0].Log {
				t.Errorf("with %d bytes and a cut behind %q the log is another one", len(p.Log), text)
			}
		}
	}
	// A log may have no room though few of its bytes are frames.
	junk := turnedTo(lively(t), func(s *impl.Serve) { s.Parts[0].Log += strings.Repeat("x", mostLogged-len(s.Parts[0].Log)) })
	asking(t, junk, [2]string{by(0, 1, "pay 1"), "code 3"}, [2]string{by(0, 1, "rekey"), "code 3"}, [2]string{by(0, 1, "see 2 0"), "due 15.00"})
	asking(t, checkRise(t, checkFall(t, junk)), [2]string{by(0, 1, "pay 1"), "done 1499"})
}

// cutPlaces is numbers of bytes of a frame that are kept: fewer than none, none, parts, all, and more than there are.
func cutPlaces(size int) []int {
	places := []int{math.MinInt, math.MinInt + 1, -1 << 32, -size, -2, -1, math.MaxInt, math.MaxInt - 1, 1 << 32, 1<<32 + 1, 1000, mostLogged + 1}
	for keep := range size + 3 {
		places = append(places, keep)
	}
	return places
}

// P24, of each cut of one request: it is there whole, or not at all.
func TestCutsOfRequests(t *testing.T) {
	s := lively(t)
	for _, c := range [][2]string{{by(0, 1, "pay 1000"), "pay 1000"}, {by(0, 1, "close"), "close"}, {by(0, 1, "rekey"), "rekey"}, {by(0, 1, "adopt data"), "set data 700 (times gb 25)"}, {by(0, 2, "use e3 calls 5"), "use e3 calls 5"}, {in(1, 1, "drop data"), "drop data"}, {by(2, 1, "credit 1 1"), ""}, {by(3, 1, "pay 7"), "pay 7"},
		{by(0, 1, "see 2 0"), ""}, {by(0, 1, "pay 0"), ""}, {by(0, 3, "pay 5"), ""}, {by(0, 1, "adopt nothing"), ""}, {"0 x", ""}, {"0 1.50.0.7 pay 5", ""}, {"x", ""}, {"", ""}, {"4 x", ""}, {"* x", ""}, {"* 8 post base 0 calls", ""}, {by(1, 1, "pay 5"), ""}} {
		text, logged := c[0], c[1]
		whose := max(impl.WireOf(text), 0) % tenantCount
		frame := ""
		if logged != "" {
			frame = frameOf(logged)
		}
		for _, keep := range cutPlaces(len(frame)) {
			fallen := checkCut(t, s, text, keep)
			kept := frame[:min(max(0, keep), len(frame))]
			if fallen.Up || fallen.Clock != s.Clock || !slices.Equal(fallen.Board, s.Board) || fallen.Parts[whose].Log != s.Parts[whose].Log+kept {
				t.Fatalf("a cut of %q with %d is %v", text, keep, fallen)
			}
			want := s.Parts[whose].Texts
			if logged != "" && keep >= len(frame) {
				want = append(slices.Clone(want), logged)
			}
			risen := checkRise(t, fallen)
			for i, p := range risen.Parts {
				if i != whose && !slices.Equal(p.Texts, s.Parts[i].Texts) || i == whose && !slices.Equal(p.Texts, want) || p.Log != logOf(p.Texts) || p.Asked != 0 || p.Refused != 0 {
					t.Fatalf("P24: behind a cut of %q with %d the part of %d is %v", text, keep, i, p)
				}
			}
			if keep%7 == 0 {
				asking(t, risen, [2]string{"3 " + sealed(3, 1, 50, 0) + " see 5 0", "count 0"})
			}
		}
		// Where power is down already, nothing is turned.
		for _, down := range []impl.Serve{impl.ServeFall(s), impl.ServeCut(s, by(0, 1, "pay 1000"), 5), turnedTo(s, func(s *impl.Serve) { s.Up = false })} {
			for _, keep := range []int{-1, 0, 1, 5, 1000} {
				if got := checkCut(t, down, text, keep); !sameServe(got, down) {
					t.Fatalf("while it is down, a cut of %q is %v", text, got)
				}
			}
		}
	}
}

// What is posted while power falls is on the board, if any of it is kept; and the board outlasts each fall.
func TestCutsOfPostings(t *testing.T) {
	s := lively(t)
	for _, keep := range cutPlaces(3) {
		fallen := checkCut(t, s, "* 7 post base 0 7", keep)
		want := "tariff base 1900 (steps calls 100:0 1000:2 0:1) data 700 (times gb 25)"
		if keep > 0 {
			want = "tariff base 0 7 data 700 (times gb 25)"
		}
		risen := checkRise(t, fallen)
		for _, got := range []impl.Serve{fallen, risen, checkFall(t, risen)} {
			if told := impl.SeeText(impl.Bill{Tariff: got.Board}, 1, 3, 0); told != want {
				t.Fatalf("with %d the board is %q", keep, told)
			}
			for i, p := range got.Parts {
				if p.Log != s.Parts[i].Log {
					t.Fatalf("a posting turned the log of %d", i)
				}
			}
		}
		for _, refused := range []string{"* 8 post base 0 7", "* 7 post base 0 (", "* 7 post base 1900 (steps calls 100:0 1000:2 0:1)"} {
			if got := checkCut(t, s, refused, keep); !slices.Equal(got.Board, s.Board) {
				t.Fatalf("%q turned the board", refused)
			}
		}
	}
}

// The board fills up, and what does not come on it is told.
func TestPostingsUpToTheLimit(t *testing.T) {
	s := opened()
	for i, name := range []string{"f", "b", "d", "a", "e", "c"} {
		s = asking(t, s, [2]string{fmt.Sprintf("* 7 post %s %d 5", name, i), "posted 0"})
	}
	s = asking(t, s, [2]string{"* 7 post g 0 5", "posted 3"}, [2]string{"* 7 post aa 0 5", "posted 3"}, [2]string{"* 7 post a 3 5", "posted 1"}, [2]string{"* 7 post a 4 5", "posted 0"}, [2]string{by(0, 1, "adopt g"), "none"}, [2]string{by(0, 1, "adopt a"), "done 0"}, [2]string{by(0, 1, "adopt f"), "done 0"}, [2]string{by(0, 1, "see 3 0"), "tariff a 4 5 f 0 5"})
	if len(s.Board) != 6 || len(s.Parts[0].Texts) != 2 || s.Parts[0].Texts[0] != "set a 4 5" {
		t.Fatal(s)
	}
	longest := impl.RuleText(exprOfSize(t, 600))
	s = asking(t, s, [2]string{"* 7 post a 5000 " + longest, "posted 0"}, [2]string{by(1, 1, "adopt a"), "done 0"})
	if s.Parts[1].Texts[0] != "set a 5000 "+longest {
		t.Fatal(s.Parts[1])
	}
	// A line of the board has no place in a tariff that is full.
	full := turnedTo(s, func(s *impl.Serve) { s.Parts[2].Bill.Tariff = tariffFor(6) })
	asking(t, full, [2]string{by(2, 1, "adopt a"), "code 3"}, [2]string{by(2, 1, "adopt g"), "none"}, [2]string{by(2, 1, "drop rest"), "done 0"}, [2]string{by(2, 1, "adopt a"), "done 0"})
}

// What was adopted stays as it was, whatever is posted later and whenever power falls.
func TestBoardsThatArePostedInBetween(t *testing.T) {
	s := asking(t, opened(), [2]string{by(0, 1, "adopt base"), "none"}, [2]string{"* 7 post base 100 1", "posted 0"}, [2]string{by(0, 1, "adopt base"), "done 0"}, [2]string{"* 7 post base 200 2", "posted 0"},
		[2]string{by(0, 1, "see 3 0"), "tariff base 100 1"}, [2]string{by(1, 1, "adopt base"), "done 0"}, [2]string{by(1, 1, "see 3 0"), "tariff base 200 2"})
	s = checkRise(t, checkFall(t, s))
	s = asking(t, s, [2]string{by(0, 1, "see 3 0"), "tariff base 100 1"}, [2]string{by(1, 1, "see 3 0"), "tariff base 200 2"}, [2]string{by(0, 1, "adopt base"), "done 0"}, [2]string{by(0, 1, "adopt base"), "code 1"})
	for _, keep := range []int{0, 1} {
		cut := checkRise(t, checkCut(t, s, "* 7 post base 300 3", keep))
		told := []string{"code 1", "done 0"}[keep]
		cut = asking(t, cut, [2]string{by(0, 1, "adopt base"), told}, [2]string{by(1, 1, "see 3 0"), "tariff base 200 2"})
		if last := cut.Parts[0].Texts[len(cut.Parts[0].Texts)-1]; last != []string{"set base 200 2", "set base 300 3"}[keep] {
			t.Fatal(last)
		}
	}
	// An adoption that is cut is that of the board as it was then.
	frame := frameOf("set base 200 2")
	s = asking(t, s, [2]string{by(2, 1, "pay 1"), "done -1"})
	for _, keep := range []int{0, len(frame) - 1, len(frame)} {
		cut := checkRise(t, checkCut(t, s, by(2, 1, "adopt base"), keep))
		told := []string{"tariff", "tariff base 200 2"}[keep/len(frame)]
		asking(t, cut, [2]string{"* 7 post base 300 3", "posted 0"}, [2]string{by(2, 1, "see 3 0"), told})
	}
}

// checkRiseOf holds what rises of a log: these texts, and no more.
func checkRiseOf(t *testing.T, log string, texts ...string) {
	t.Helper()
	for place := range tenantCount {
		for _, up := range []bool{true, false} {
			s := turnedTo(opened(), func(s *impl.Serve) {
				s.Up = up
				s.Parts[place].Log, s.Parts[place].Texts, s.Parts[place].Epoch, s.Parts[place].Head = log, []string{"other"}, 9, 9
				s.Parts[place].Asked, s.Parts[place].Refused, s.Parts[place].Bill = 3, 3, taken()
			})
			if up {
				if got := checkRise(t, s); !sameServe(got, s) {
					t.Fatal("what is up has risen to", got)
				}
				s = checkFall(t, s)
				if s.Parts[place].Log != log {
					t.Fatal("a fall turned the log")
				}
			}
			p := checkRise(t, s).Parts[place]
			if want, _ := impl.ServeReplay(p.Key, texts); !slices.Equal(p.Texts, texts) || p.Log != logOf(texts) || !samePart(p, want) || p.Key != serveKeys()[place] {
				t.Fatalf("of %.300q there rises %v, not %q", log, p, texts)
			}
		}
	}
}

// P24, of logs with ends that are torn, with bytes that are no frame, and with frames of texts that are none.
func TestLogsThatRise(t *testing.T) {
	frame := impl.LogFrame
	checkRiseOf(t, "")
	checkRiseOf(t, frame("pay 1"), "pay 1")
	checkRiseOf(t, frame("set a 0 5")+frame("close")+frame("rekey")+frame("pay 2"), "set a 0 5", "close", "rekey", "pay 2")
	whole := frame("pay 1") + frame("rekey")
	for cut := range len(frame("close")) {
		checkRiseOf(t, whole+frame("close")[:cut], "pay 1", "rekey")
	}
	for _, torn := range []string{"x", "\n", " ", "0", "0 7", "0 7 ", "5 1 close\n", "5 " + strings.Repeat("9", 30) + " close\n", "close\n", "\x00\xff", strings.Repeat("x", 30000)} {
		checkRiseOf(t, torn)
		checkRiseOf(t, torn+frame("pay 1"))
		checkRiseOf(t, whole+torn, "pay 1", "rekey")
		checkRiseOf(t, whole+torn+frame("pay 2"), "pay 1", "rekey")
	}
	// Whole frames of texts that cannot be committed: behind them nothing counts.
	for _, none := range []string{"", "x", "rekey ", " rekey", "Rekey", "pay", "pay 0", "pay 01", "close ", "drop a", "credit 1 1", "adopt base", "see 2 0", "post a 0 a", by(0, 1, "pay 1"), "use e1 gb -1", "set a 0 (", "fix e1 1", "\n", strings.Repeat("x", 1000)} {
		checkRiseOf(t, frame(none))
		checkRiseOf(t, frame(none)+frame("pay 2"))
		checkRiseOf(t, whole+frame(none), "pay 1", "rekey")
		checkRiseOf(t, whole+frame(none)+frame("pay 2")+frame(none), "pay 1", "rekey")
	}
	checkRiseOf(t, frame("use e1 gb 5")+frame("use e1 gb 5")+frame("pay 2"), "use e1 gb 5")
	checkRiseOf(t, frame("use e1 gb 5")+frame("use e1 gb 6"), "use e1 gb 5")
	checkRiseOf(t, frame("set a 0 5")+frame("close")+frame("credit 1 6")+frame("pay 2"), "set a 0 5", "close")
}

// Texts to replay: each is committed, or none of them.
func TestReplaysByHand(t *testing.T) {
	texts := []string{"set base 1900 gb", "use e1 gb 1000", "use e2 gb 500", "fix e2 250", "close", "rekey", "credit 1 8", "pay 1000", "rekey", "drop base"}
	for _, key := range []int{0, 1, 11, lastMark - 1, lastMark} {
		for first := range len(texts) + 1 {
			p, ok := checkReplay(t, key, texts[:first])
			if !ok || p.Key != key || p.Log != logOf(texts[:first]) || p.Head != impl.ChainHead(texts[:first]) || p.Asked != 0 || p.Refused != 0 {
				t.Fatalf("of the first %d there is %v %v", first, p, ok)
			}
			if first == len(texts) && (p.Epoch != 2 || impl.BillDue(p.Bill) != 480 || len(p.Bill.Tariff) != 0) {
				t.Fatal(p)
			}
		}
	}
	for _, key := range wrongKeys() {
		for _, texts := range [][]string{nil, {}, texts, {"x"}} {
			if _, ok := checkReplay(t, key, texts); ok {
				t.Fatal("with the key", key, "there is a part")
			}
		}
	}
	// One text of which is refused: the code of each is another one.
	for _, wrong := range []string{"", "x", "rekey ", "pay 0", "pay -1", "pay 1000000000000001", "drop none", "set base 1900", "use if gb", "use e gb -1", "fix none 1", "credit 9 1", "credit 1 100000", "adopt base", "see 1 1", "0 1.50.0.7 close", "* 7 post a 0 a", "\x00", strings.Repeat("x", 801), strings.Repeat("x", 1001), "set x 0 " + strings.Repeat("x", 600)} {
		for place := range len(texts) + 1 {
			if p, ok := checkReplay(t, 11, slices.Insert(slices.Clone(texts), place, wrong)); ok || !reflect.DeepEqual(p, impl.ServePart{}) {
				t.Fatalf("with %.60q at %d there is %v %v", wrong, place, p, ok)
			}
		}
	}
	for _, again := range []string{"set base 1900 gb", "use e1 gb 1000", "use e1 gb 7"} {
		if _, ok := checkReplay(t, 11, append(slices.Clone(texts[:3]), again)); ok {
			t.Fatalf("%q is replayed twice", again)
		}
	}
	for _, count := range []int{mostTexts - 1, mostTexts, mostTexts + 1, mostTexts + 2, 1000} {
		if p, ok := checkReplay(t, 11, slices.Repeat([]string{"rekey"}, count)); ok != (count <= mostTexts) || ok && p.Epoch != count {
			t.Fatalf("%d texts are replayed: %v", count, ok)
		}
	}
	if _, ok := checkReplay(t, 11, slices.Repeat([]string{"close"}, 9)); ok {
		t.Fatal("nine periods are closed")
	}
}

// P23: in a service whose tenants fill up, forge, exhaust and break off, the one that does not asks as if it were alone.
func TestNobodyTurnsAnothersPart(t *testing.T) {
	alone, among := opened(), opened()
	r := rand.New(rand.NewSource(2310))
	for i := range 60 {
		for range r.Intn(12) {
			other := 1 + r.Intn(3)
			among, _ = checkAsk(t, among, []string{by(other, 1, "use e"+strconv.Itoa(i)+" gb 1"), by(other, 1, "rekey"), fmt.Sprint(other, " x"), fmt.Sprint(other, " ", sealed(0, 1, lastTime, 0), " pay 5"), by(other, 3, "close"), by(other, 1, "adopt base"), "x"}[r.Intn(7)])
		}
		text := by(0, 1, []string{"use e" + strconv.Itoa(i) + " gb 3", "see 4 0", "set a 0 " + strconv.Itoa(i), "pay 1", "close", "see 2 0"}[i%6])
		aloneNow, told := checkAsk(t, alone, text)
		amongNow, toldAmong := checkAsk(t, among, text)
		alone, among = aloneNow, amongNow
		if told != toldAmong || !samePart(alone.Parts[0], among.Parts[0]) {
			t.Fatalf("P23: %q is told %q alone, and %q among others", text, told, toldAmong)
		}
		if i%4 == 3 {
			alone, among = checkTick(t, alone), checkTick(t, among)
		}
		if i%15 == 14 {
			alone, among = checkRise(t, checkFall(t, alone)), checkRise(t, checkCut(t, among, by(2, 1, "pay 5"), r.Intn(20)))
		}
	}
}

// drawAsk is a text that may come to a service, by drawn parts.
func drawAsk(r *rand.Rand, s impl.Serve) string {
	names := []string{"a", "b", "base", "data", "x", "zz", "if"}
	name := names[r.Intn(len(names))]
	switch r.Intn(16) {
	case 0:
		return []string{"", "x", "4 x", "0", "**", " 0 x", drawBytes(r, "0123* x.", 12)}[r.Intn(7)]
	case 1, 2:
		key := []int{s.Key, s.Key, s.Key, s.Key, s.Key + 1, 11}[r.Intn(6)]
		return fmt.Sprintf("* %d post %s %d %s", key, name, []int{0, 1900, 1900, 5001}[r.Intn(4)], []string{drawRule(r), "gb", "gb", "5"}[r.Intn(4)])
	case 3:
		return fmt.Sprintf("%d %s", r.Intn(4), drawBytes(r, "123.0 payclose", 20))
	}
	tenant := r.Intn(tenantCount)
	p := s.Parts[tenant]
	key, epoch, until, role := p.Key, p.Epoch, s.Clock+r.Intn(3), []int{1, 1, 1, 1, 1, 2, 3}[r.Intn(7)]
	switch r.Intn(24) {
	case 0:
		key = s.Parts[(tenant+1)%tenantCount].Key
	case 1:
		epoch = max(0, epoch-1+r.Intn(3))
	case 2:
		until = max(0, s.Clock-1)
	}
	text := []string{fmt.Sprintf("see %d %d", r.Intn(7), r.Intn(4)), "adopt " + name, "rekey", fmt.Sprint("credit 1 ", r.Intn(3000))}[max(0, r.Intn(6)-2)]
	if r.Intn(3) > 0 {
		text = impl.WireOp(drawCall(r, p.Bill))
	}
	return fmt.Sprintf("%d %s %s", tenant, impl.SealText(impl.SealMake(key, tenant, role, until, epoch)), text)
}

// history is what was committed of each tenant, and the one text that came while power fell.
type history struct {
	committed [tenantCount][]string
	falling   [tenantCount][]string
}

// rose holds P24 of a service that has risen: what was told to be done is there, and at most the one text more.
func (h *history) rose(t *testing.T, s impl.Serve) {
	t.Helper()
	for i, p := range s.Parts {
		with := slices.Concat(h.committed[i], h.falling[i])
		if !slices.Equal(p.Texts, h.committed[i]) && !slices.Equal(p.Texts, with) {
			t.Fatalf("P24: of %d there are %q, but %q was told to be done, and %q came while power fell", i, p.Texts, h.committed[i], h.falling[i])
		}
		h.committed[i], h.falling[i] = slices.Clone(p.Texts), nil
		if want, ok := impl.ServeReplay(p.Key, p.Texts); !ok || !samePart(p, want) {
			t.Fatalf("P24: of %d there is %v, not what its texts make", i, p)
		}
	}
}

// held holds that a service that is up has just what was committed.
func (h *history) held(t *testing.T, s impl.Serve) {
	t.Helper()
	for i, p := range s.Parts {
		if s.Up && !slices.Equal(p.Texts, h.committed[i]) {
			t.Fatalf("P24: of %d there are %q, not %q", i, p.Texts, h.committed[i])
		}
	}
}

// cutAt keeps in mind what came while power fell, by what it would have been told.
func (h *history) cutAt(s impl.Serve, text string) {
	asked, told := askedTruth(s, text)
	if whose := ofTruth(text); s.Up && strings.HasPrefix(told, "done ") {
		texts := asked.Parts[whose].Texts
		h.falling[whose] = texts[len(texts)-1:]
	}
}

// step lets something drawn happen to a service.
func (h *history) step(t *testing.T, r *rand.Rand, s impl.Serve, seen map[string]int) impl.Serve {
	t.Helper()
	event := r.Intn(40)
	if !s.Up && r.Intn(2) == 0 {
		event = 39
	}
	switch {
	case event < 3:
		return checkTick(t, s)
	case event < 6:
		text := drawAsk(r, s)
		h.cutAt(s, text)
		seen["cut"]++
		return checkCut(t, s, text, r.Intn(45)-4)
	case event < 7:
		seen["fall"]++
		return checkFall(t, s)
	case event == 39:
		was := s.Up
		s = checkRise(t, s)
		if !was {
			h.rose(t, s)
		}
		return s
	}
	text := drawAsk(r, s)
	got, told := checkAsk(t, s, text)
	if whose := impl.WireOf(text); strings.HasPrefix(told, "done ") {
		texts := got.Parts[whose].Texts
		h.committed[whose] = append(h.committed[whose], texts[len(texts)-1])
	}
	word, number, _ := strings.Cut(told, " ")
	seen[word]++
	if word == "code" || word == "seal" || word == "posted" {
		seen[word+" "+number]++
	}
	return got
}

// P23, P24 and P25 along many events: requests of all tenants and of the operator, ticks, falls, cuts and rises in between.
func TestServicesAlongManyEvents(t *testing.T) {
	r := rand.New(rand.NewSource(1031))
	seen := map[string]int{}
	for walk := range 200 {
		s, h := lively(t), &history{}
		for i, p := range s.Parts {
			h.committed[i] = slices.Clone(p.Texts)
		}
		if walk%2 == 0 {
			s, h = opened(), &history{}
		}
		for range 150 {
			s = h.step(t, r, s, seen)
			h.held(t, s)
		}
		s = checkRise(t, checkFall(t, s))
		h.rose(t, s)
	}
	for _, want := range []string{"down", "nobody", "form", "key", "posted", "posted 0", "posted 1", "busy", "seal", "seal 1", "seal 2", "seal 3", "right", "none", "code", "code 1", "code 2", "code 4", "code 5", "code 6", "code 7", "done", "no", "invoice", "due", "tariff", "usage", "count", "cut", "fall"} {
		if seen[want] < 5 {
			t.Errorf("%q came %d times", want, seen[want])
		}
	}
}

// What was told does not hang on how goroutines run: one service may be asked by many at once, and none of what serves it is left behind.
func TestOneServiceAskedByManyAtOnce(t *testing.T) {
	s := lively(t)
	before := runtime.NumGoroutine()
	texts := []string{by(0, 1, "pay 5"), by(0, 1, "adopt data"), in(1, 1, "close"), by(2, 1, "see 3 0"), "* 7 post base 0 7", "* 8 post a 0 1", "x", "3 x", by(3, 1, "adopt base")}
	var all sync.WaitGroup
	wrong := make(chan string, 8*len(texts))
	for range 8 {
		for _, text := range texts {
			all.Add(1)
			go func() {
				defer all.Done()
				for range 20 {
					want, wantTold := askedTruth(s, text)
					if got, told := impl.ServeAsk(s, text); told != wantTold || !sameServe(got, want) {
						wrong <- text
						return
					}
				}
			}()
		}
	}
	all.Wait()
	close(wrong)
	for text := range wrong {
		t.Errorf("asked by many at once, %q is told something else", text)
	}
	for range 1000 {
		if runtime.NumGoroutine() <= before {
			return
		}
		time.Sleep(time.Millisecond)
	}
	t.Errorf("%d goroutines are left of %d", runtime.NumGoroutine(), before)
}
