package tests

import (
	"math"
	"math/big"
	"math/rand"
	"reflect"
	"regexp"
	"slices"
	"strconv"
	"strings"
	"testing"

	"loop.example/scot/impl"
)

func TestRuleBounds(t *testing.T) {
	if impl.RuleMaxNodes != 40 || impl.RuleMaxDepth != 8 || impl.RuleMaxTiers != 6 {
		t.Error(impl.RuleMaxNodes, impl.RuleMaxDepth, impl.RuleMaxTiers)
	}
	if impl.RuleMaxNum != 1000000000 || impl.RuleMaxText != 600 || impl.RuleMaxFuel != 1000 {
		t.Error(impl.RuleMaxNum, impl.RuleMaxText, impl.RuleMaxFuel)
	}
	kinds := []int{impl.RuleNum, impl.RuleMeter, impl.RuleAdd, impl.RuleSub, impl.RuleTimes, impl.RulePart, impl.RuleMin, impl.RuleMax, impl.RuleIf, impl.RuleTiers}
	for i, kind := range kinds {
		if kind != i+1 {
			t.Errorf("kind %d is %d", i+1, kind)
		}
	}
	if impl.RuleDone != 0 || impl.RuleOver != 1 || impl.RuleFuel != 2 || impl.RuleForm != 3 {
		t.Error(impl.RuleDone, impl.RuleOver, impl.RuleFuel, impl.RuleForm)
	}
}

// ruleWords is the words that are no names, those of the pairs first.
func ruleWords() []string {
	return []string{"add", "sub", "times", "min", "max", "part", "if", "steps", "tier"}
}

// nameTruth is RuleName as the document says it.
func nameTruth(word string) bool {
	letters := strings.Trim(word, "abcdefghijklmnopqrstuvwxyz") == ""
	return letters && len(word) >= 1 && len(word) <= 8 && !slices.Contains(ruleWords(), word)
}

func TestRuleName(t *testing.T) {
	words := []string{"", "a", "z", "calls", "gb", "abcdefgh", "abcdefghi", "zzzzzzzz", "zzzzzzzzz", "A", "Add", "a b", " a", "a ", "a1", "1", "-", "é", "aé", "\x00", "a\x00", "\xff",
		"num", "meter", "tiers", "step", "ifs", "i", "f", "and", "or", strings.Repeat("a", 1<<20)}
	for _, word := range ruleWords() {
		words = append(words, word, word+"s", word[1:], "x"+word, word[:len(word)-1], strings.ToUpper(word), word+" ")
	}
	for a := range 256 {
		words = append(words, string([]byte{byte(a)}))
		for b := range 256 {
			words = append(words, string([]byte{byte(a), byte(b)}))
		}
		words = append(words, string([]byte{'a', byte(a), 'z'}), string([]byte{'a', 'b', 'c', 'd', 'e', 'f', 'g', byte(a)}))
	}
	for _, word := range words {
		if got := impl.RuleName(word); got != nameTruth(word) {
			t.Errorf("RuleName(%.20q) is %v", word, got)
		}
	}
	for _, word := range ruleWords() {
		if impl.RuleName(word) {
			t.Errorf("%s is no name", word)
		}
	}
	if !impl.RuleName("calls") || !impl.RuleName("q") || !impl.RuleName("abcdefgh") || impl.RuleName("abcdefghi") || impl.RuleName("") {
		t.Error("names by hand")
	}
}

func num(n int) impl.RuleExpr { return impl.RuleExpr{Kind: impl.RuleNum, Num: n} }

func meter(name string) impl.RuleExpr { return impl.RuleExpr{Kind: impl.RuleMeter, Meter: name} }

func pair(kind int, a, b impl.RuleExpr) impl.RuleExpr {
	return impl.RuleExpr{Kind: kind, Kids: []impl.RuleExpr{a, b}}
}

func partOf(kid impl.RuleExpr, n int) impl.RuleExpr {
	return impl.RuleExpr{Kind: impl.RulePart, Num: n, Kids: []impl.RuleExpr{kid}}
}

func choice(a, b, c impl.RuleExpr) impl.RuleExpr {
	return impl.RuleExpr{Kind: impl.RuleIf, Kids: []impl.RuleExpr{a, b, c}}
}

// steps is an expression of steps, sizes and prices by turns.
func steps(kid impl.RuleExpr, numbers ...int) impl.RuleExpr {
	return impl.RuleExpr{Kind: impl.RuleTiers, Kids: []impl.RuleExpr{kid}, Tiers: tiersOf(numbers...)}
}

func tiersOf(numbers ...int) []impl.RuleTier {
	tiers := make([]impl.RuleTier, len(numbers)/2)
	for i := range tiers {
		tiers[i] = impl.RuleTier{Size: numbers[2*i], Price: numbers[2*i+1]}
	}
	return tiers
}

// oneOfEach is one right expression of each kind.
func oneOfEach() []impl.RuleExpr {
	return []impl.RuleExpr{num(7), meter("gb"), pair(impl.RuleAdd, num(1), num(2)), pair(impl.RuleSub, num(1), num(2)), pair(impl.RuleTimes, num(1), num(2)),
		partOf(num(5), 12), pair(impl.RuleMin, num(1), num(2)), pair(impl.RuleMax, num(1), num(2)), choice(num(1), num(2), num(3)), steps(num(9), 10, 5, 0, 3)}
}

func tiersTruth(tiers []impl.RuleTier) bool {
	n := len(tiers)
	if n == 0 || n > 6 {
		return false
	}
	for i, tier := range tiers {
		least := 1
		most := 1000000000
		if i == n-1 {
			least, most = 0, 0
		}
		if tier.Size < least || tier.Size > most || tier.Price < 0 || tier.Price > 1000000000 {
			return false
		}
	}
	return true
}

// countExprs is how many expressions there are, and how deep they are; only of what does not lead back into itself.
func countExprs(e impl.RuleExpr) (int, int) {
	count, depth := 1, 0
	for _, kid := range e.Kids {
		n, d := countExprs(kid)
		count += n
		depth = max(depth, d)
	}
	return count, depth + 1
}

// partsTruth is what the table of kinds asks for, of one expression and all of its kids.
func partsTruth(e impl.RuleExpr) bool {
	kids := map[int]int{1: 0, 2: 0, 3: 2, 4: 2, 5: 2, 6: 1, 7: 2, 8: 2, 9: 3, 10: 1}
	want, known := kids[e.Kind]
	if !known || len(e.Kids) != want {
		return false
	}
	most := map[int]int{1: 1000000000, 6: 1000000}
	least := map[int]int{1: -1000000000}
	if e.Num < least[e.Kind] || e.Num > most[e.Kind] {
		return false
	}
	if e.Kind == 2 && !nameTruth(e.Meter) || e.Kind != 2 && e.Meter != "" {
		return false
	}
	if e.Kind == 10 && !tiersTruth(e.Tiers) || e.Kind != 10 && len(e.Tiers) != 0 {
		return false
	}
	for _, kid := range e.Kids {
		if !partsTruth(kid) {
			return false
		}
	}
	return true
}

func okTruth(e impl.RuleExpr) bool {
	count, depth := countExprs(e)
	return partsTruth(e) && count <= 40 && depth <= 8
}

// ruleTextTruth is how an expression that is ok is written.
func ruleTextTruth(e impl.RuleExpr) string {
	words := []string{"", "", "", "add", "sub", "times", "part", "min", "max", "if", "steps"}
	switch e.Kind {
	case 1:
		return strconv.Itoa(e.Num)
	case 2:
		return e.Meter
	}
	text := "(" + words[e.Kind]
	for _, kid := range e.Kids {
		text += " " + ruleTextTruth(kid)
	}
	if e.Kind == 6 {
		text += " " + strconv.Itoa(e.Num)
	}
	for _, tier := range e.Tiers {
		text += " " + strconv.Itoa(tier.Size) + ":" + strconv.Itoa(tier.Price)
	}
	return text + ")"
}

func sameExpr(a, b impl.RuleExpr) bool {
	if a.Kind != b.Kind || a.Num != b.Num || a.Meter != b.Meter || !slices.Equal(a.Tiers, b.Tiers) {
		return false
	}
	return slices.EqualFunc(a.Kids, b.Kids, sameExpr)
}

// isNothing says whether an expression is the zero value, all lists empty.
func isNothing(e impl.RuleExpr) bool { return sameExpr(e, impl.RuleExpr{}) }

// checkRefused asks all that take an expression for one that is not ok.
func checkRefused(t *testing.T, why string, e impl.RuleExpr) {
	t.Helper()
	if impl.RuleOk(e) {
		t.Errorf("%s: ok", why)
	}
	if text := impl.RuleText(e); text != "" {
		t.Errorf("%s: written as %.80q", why, text)
	}
	for _, fuel := range []int{0, 1, 100, 1000} {
		if n, code, taken := impl.RuleRun(e, nil, fuel); n != 0 || code != impl.RuleForm || taken != 0 {
			t.Errorf("%s: run to %d %d %d", why, n, code, taken)
		}
	}
}

// checkTaken asks all that take an expression for one that is ok: P4 for one expression.
func checkTaken(t *testing.T, e impl.RuleExpr) {
	t.Helper()
	want := ruleTextTruth(e)
	if !impl.RuleOk(e) {
		t.Errorf("%s is not ok", want)
	}
	text := impl.RuleText(e)
	if text != want {
		t.Errorf("%s is written as %q", want, text)
	}
	back, ok := impl.RuleRead(text)
	if fits := len(text) <= 600; ok != fits {
		t.Errorf("RuleRead(%q) of %d bytes says %v", text, len(text), ok)
	} else if fits && !sameExpr(back, e) {
		t.Errorf("RuleRead(%q) is %v, not %v", text, back, e)
	} else if !fits && !isNothing(back) {
		t.Errorf("RuleRead(%q) is refused with %v", text, back)
	}
	if _, code, _ := impl.RuleRun(e, nil, impl.RuleMaxFuel); code == impl.RuleForm {
		t.Errorf("%s is not run", want)
	}
}

// checkExpr holds one expression of any look against the document.
func checkExpr(t *testing.T, why string, e impl.RuleExpr) {
	t.Helper()
	if okTruth(e) {
		checkTaken(t, e)
	} else {
		checkRefused(t, why, e)
	}
}

func TestExpressionsByKind(t *testing.T) {
	for _, e := range oneOfEach() {
		checkTaken(t, e)
	}
	for _, kind := range []int{0, -1, 11, 12, -10, 100, 1 << 32, 1<<32 + 1, 1 << 33, math.MaxInt, math.MinInt, math.MinInt + 1} {
		for _, e := range append(oneOfEach(), impl.RuleExpr{}) {
			e.Kind = kind
			checkRefused(t, "kind "+strconv.Itoa(kind), e)
			checkRefused(t, "kid of kind "+strconv.Itoa(kind), partOf(e, 1))
		}
	}
	for _, e := range oneOfEach() {
		for kind := 1; kind <= 10; kind++ {
			other := e
			other.Kind = kind
			checkExpr(t, "parts of another kind", other)
		}
	}
}

// wrongParts is an expression with each of its parts, by turns, being something else.
func wrongParts(e impl.RuleExpr) []impl.RuleExpr {
	var all []impl.RuleExpr
	for _, n := range []int{1, -1, 0, impl.CoinRate, impl.CoinRate + 1, impl.RuleMaxNum, impl.RuleMaxNum + 1, -impl.RuleMaxNum, -impl.RuleMaxNum - 1, 1 << 32, -1 << 32, math.MaxInt, math.MinInt} {
		x := e
		x.Num = n
		all = append(all, x)
	}
	for _, name := range []string{"", "x", "calls", "X", "add", "tier", "abcdefgh", "abcdefghi", " ", "(add 1 2)", "1"} {
		x := e
		x.Meter = name
		all = append(all, x)
	}
	for n := range 5 {
		x := e
		x.Kids = slices.Repeat([]impl.RuleExpr{num(3)}, n)
		all = append(all, x)
	}
	for n := range 9 {
		x := e
		x.Tiers = append(slices.Repeat(tiersOf(5, 1), n), impl.RuleTier{})[:n]
		all = append(all, x)
		x.Tiers = append(slices.Repeat(tiersOf(5, 1), n), impl.RuleTier{Price: 4})
		all = append(all, x)
	}
	for _, kid := range []impl.RuleExpr{{}, {Kind: 11}, {Kind: 1, Num: math.MaxInt}, {Kind: 2}, {Kind: 2, Meter: "if"}, {Kind: 1, Meter: "x"}, {Kind: 3}} {
		for i := range e.Kids {
			x := e
			x.Kids = slices.Clone(e.Kids)
			x.Kids[i] = kid
			all = append(all, x)
		}
	}
	return all
}

func TestPartsThatShouldBeNothing(t *testing.T) {
	for _, e := range oneOfEach() {
		for _, x := range wrongParts(e) {
			checkExpr(t, "a part of kind "+strconv.Itoa(e.Kind), x)
			checkExpr(t, "a kid's part of kind "+strconv.Itoa(e.Kind), partOf(x, 5))
			checkExpr(t, "a last kid's part of kind "+strconv.Itoa(e.Kind), choice(num(1), meter("x"), x))
		}
	}
}

func TestNumbersAtTheirBounds(t *testing.T) {
	for _, n := range []int{0, 1, -1, 1000000000, -1000000000} {
		checkTaken(t, num(n))
	}
	for _, n := range []int{1000000001, -1000000001, impl.CoinMax, 1 << 32, math.MaxInt, math.MinInt} {
		checkRefused(t, "a number", num(n))
	}
	for _, n := range []int{0, 1, 10000, 1000000} {
		checkTaken(t, partOf(meter("x"), n))
	}
	for _, n := range []int{-1, 1000001, 1000000000, 1 << 32, math.MaxInt, math.MinInt} {
		checkRefused(t, "a part", partOf(meter("x"), n))
	}
}

// wrongSteps is steps that are not right.
func wrongSteps() [][]impl.RuleTier {
	return [][]impl.RuleTier{nil, {}, tiersOf(1, 1), tiersOf(0, -1), tiersOf(0, 1000000001), tiersOf(-1, 1), tiersOf(1000000001, 1, 0, 1), tiersOf(-1, 1, 0, 1),
		tiersOf(0, 1, 0, 1), tiersOf(1, 1, 0, 1, 0, 1), tiersOf(0, 1, 1, 1), tiersOf(1, 1, 1, 1), tiersOf(5, -1, 0, 1), tiersOf(5, 1000000001, 0, 1),
		tiersOf(5, 1, 0, math.MaxInt), tiersOf(5, 1, 0, math.MinInt), tiersOf(math.MaxInt, 1, 0, 1), tiersOf(math.MinInt, 1, 0, 1), tiersOf(5, 1, math.MinInt, 1), tiersOf(5, 1, -1, 1),
		tiersOf(1, 0, 1, 0, 1, 0, 1, 0, 1, 0, 1, 0, 0, 0), tiersOf(1, 0, 1, 0, 1, 0, 0, 0, 1, 0, 0, 0), slices.Repeat(tiersOf(1, 1), 1<<16)}
}

func TestStepsAtTheirBounds(t *testing.T) {
	for _, numbers := range [][]int{{0, 0}, {0, 1000000000}, {1, 0, 0, 0}, {1000000000, 1000000000, 0, 1000000000}, {1, 1, 2, 2, 3, 3, 4, 4, 5, 5, 0, 6}, {9, 0, 9, 0, 9, 0, 9, 0, 0, 0}} {
		checkTaken(t, steps(meter("x"), numbers...))
	}
	for _, tiers := range wrongSteps() {
		e := steps(meter("x"))
		e.Tiers = tiers
		checkRefused(t, "steps", e)
		for _, qty := range []int{-1, 0, 1, 100, impl.CoinMax, math.MaxInt, math.MinInt} {
			if n, ok := impl.RuleStep(tiers, qty); n != 0 || ok {
				t.Errorf("RuleStep(%.60v, %d) is %d %v", tiers[:min(len(tiers), 8)], qty, n, ok)
			}
		}
	}
}

// chainOf is an expression that is so deep; each has all but one of its kids being leaves.
func chainOf(kind, depth int) impl.RuleExpr {
	e := meter("x")
	for range depth - 1 {
		switch kind {
		case impl.RulePart:
			e = partOf(e, 7)
		case impl.RuleTiers:
			e = steps(e, 0, 2)
		case impl.RuleIf:
			e = choice(num(1), num(2), e)
		default:
			e = pair(kind, e, num(1))
		}
	}
	return e
}

// bushOf is an expression of so many expressions, none deeper than need be.
func bushOf(count int) impl.RuleExpr {
	switch {
	case count == 1:
		return num(4)
	case count == 2:
		return partOf(num(4), 3)
	}
	left := (count - 1) / 2
	return pair(impl.RuleAdd, bushOf(left), bushOf(count-1-left))
}

func TestDepthAndCountAtTheirBounds(t *testing.T) {
	for kind := impl.RuleAdd; kind <= impl.RuleTiers; kind++ {
		for depth := 1; depth <= 8; depth++ {
			checkTaken(t, chainOf(kind, depth))
		}
		checkRefused(t, "depth 9", chainOf(kind, 9))
		checkRefused(t, "depth 10", chainOf(kind, 10))
		checkRefused(t, "depth 1000", chainOf(kind, 1000))
		checkRefused(t, "depth 9 in a last kid", choice(num(1), num(2), chainOf(kind, 8)))
	}
	for count := 1; count <= 40; count++ {
		if n, depth := countExprs(bushOf(count)); n != count || depth > 8 {
			t.Fatal(n, depth)
		}
		checkTaken(t, bushOf(count))
	}
	for count := 41; count <= 60; count++ {
		checkRefused(t, strconv.Itoa(count)+" expressions", bushOf(count))
	}
	checkTaken(t, choice(bushOf(13), bushOf(13), bushOf(13)))
	checkRefused(t, "41 in three kids", choice(bushOf(13), bushOf(13), bushOf(14)))
	checkRefused(t, "41 in three kids", choice(bushOf(14), bushOf(13), bushOf(13)))
}

// What leads back into itself, or is far too much when it is walked through, is refused too.
func TestExpressionsWithoutEnd(t *testing.T) {
	round := make([]impl.RuleExpr, 1)
	round[0] = impl.RuleExpr{Kind: impl.RulePart, Kids: round}
	checkRefused(t, "a list within itself", round[0])
	twice := make([]impl.RuleExpr, 2)
	twice[0] = impl.RuleExpr{Kind: impl.RuleAdd, Kids: twice}
	twice[1] = twice[0]
	checkRefused(t, "a list within itself, twice", twice[0])
	e := num(1)
	for range 200 {
		e = pair(impl.RuleAdd, e, e)
	}
	checkRefused(t, "one list in many places", e)
	wideOne := choice(num(1), num(2), num(3))
	wideOne.Kids = slices.Repeat([]impl.RuleExpr{wideOne}, 1<<16)
	checkRefused(t, "a wide list", wideOne)
	shared := choice(num(1), num(2), num(3))
	checkTaken(t, choice(shared, shared, shared))
}

func TestRuleTextByHand(t *testing.T) {
	for _, c := range []struct {
		e    impl.RuleExpr
		text string
	}{
		{num(0), "0"}, {num(-12), "-12"}, {num(1000000000), "1000000000"}, {meter("calls"), "calls"},
		{pair(impl.RuleAdd, num(1), meter("a")), "(add 1 a)"}, {pair(impl.RuleSub, num(1), meter("a")), "(sub 1 a)"},
		{pair(impl.RuleTimes, num(1), meter("a")), "(times 1 a)"}, {partOf(meter("gb"), 12500), "(part gb 12500)"},
		{pair(impl.RuleMin, num(-1), meter("a")), "(min -1 a)"}, {pair(impl.RuleMax, num(1), num(0)), "(max 1 0)"},
		{choice(meter("a"), num(2), meter("c")), "(if a 2 c)"}, {steps(meter("calls"), 100, 0, 1000, 2, 0, 1), "(steps calls 100:0 1000:2 0:1)"},
		{pair(impl.RuleAdd, steps(meter("calls"), 0, 1), choice(meter("gb"), pair(impl.RuleMax, num(500), partOf(meter("gb"), 0)), num(0))), "(add (steps calls 0:1) (if gb (max 500 (part gb 0)) 0))"},
	} {
		if text := impl.RuleText(c.e); text != c.text {
			t.Errorf("%q is written as %q", c.text, text)
		}
		if e, ok := impl.RuleRead(c.text); !ok || !sameExpr(e, c.e) {
			t.Errorf("%q is read as %v %v", c.text, e, ok)
		}
	}
}

// drawExpr is some expression, at most so deep, nearly always right in its parts.
func drawExpr(r *rand.Rand, depth int) impl.RuleExpr {
	kid := func() impl.RuleExpr { return drawExpr(r, depth-1) }
	kind := 1 + r.Intn(10)
	if depth <= 1 {
		kind = 1 + r.Intn(2)
	}
	switch kind {
	case impl.RuleNum:
		return num(drawNumber(r) * (1 - 2*r.Intn(2)))
	case impl.RuleMeter:
		return meter([]string{"a", "b", "calls", "gb", "abcdefgh"}[r.Intn(5)])
	case impl.RulePart:
		return partOf(kid(), min(impl.CoinRate, drawNumber(r)))
	case impl.RuleIf:
		return choice(kid(), kid(), kid())
	case impl.RuleTiers:
		var numbers []int
		for range r.Intn(6) {
			numbers = append(numbers, max(1, drawNumber(r)), drawNumber(r))
		}
		return steps(kid(), append(numbers, 0, drawNumber(r))...)
	}
	return pair(kind, kid(), kid())
}

// drawNumber is a number of a tariff that is not below 0: of any size, the bounds among them.
func drawNumber(r *rand.Rand) int {
	if r.Intn(10) == 0 {
		return []int{0, 1, 10000, impl.CoinRate, impl.RuleMaxNum - 1, impl.RuleMaxNum}[r.Intn(6)]
	}
	return r.Intn(impl.RuleMaxNum) >> r.Intn(31)
}

func drawUses(r *rand.Rand) []impl.RuleUse {
	uses := make([]impl.RuleUse, r.Intn(6))
	for i := range uses {
		qty := drawCoin(r)
		if r.Intn(4) > 0 {
			qty = r.Intn(3000) - 100
		}
		uses[i] = impl.RuleUse{Meter: []string{"a", "b", "calls", "gb", "abcdefgh", "other"}[r.Intn(6)], Qty: qty}
	}
	return uses
}

// P4, the first half.
func TestReadOfTextOfManyExpressions(t *testing.T) {
	r := rand.New(rand.NewSource(21))
	taken, refused := 0, 0
	for range 20000 {
		e := drawExpr(r, 1+r.Intn(9))
		if okTruth(e) {
			taken++
		} else {
			refused++
		}
		checkExpr(t, "too many or too deep", e)
	}
	if taken < 5000 || refused < 500 {
		t.Error("too few of a sort were drawn", taken, refused)
	}
}

// exprOfSize is an expression that is ok and whose text has so many bytes, by the digits of its prices.
func exprOfSize(t *testing.T, size int) impl.RuleExpr {
	t.Helper()
	e := meter("x")
	for range 6 {
		e = pair(impl.RuleAdd, steps(meter("y"), 1000, 0, 1000, 0, 1000, 0, 1000, 0, 1000, 0, 0, 0), e)
	}
	sum := &e
	for range 6 {
		for i := range sum.Kids[0].Tiers {
			price := 1
			for range min(9, size-len(ruleTextTruth(e))) {
				price *= 10
			}
			sum.Kids[0].Tiers[i].Price = price
		}
		sum = &sum.Kids[1]
	}
	if n := len(ruleTextTruth(e)); n != size || !okTruth(e) {
		t.Fatal(n, size, ruleTextTruth(e))
	}
	return e
}

func TestTextsAtTheirBound(t *testing.T) {
	for size := 560; size <= 620; size++ {
		checkTaken(t, exprOfSize(t, size))
	}
	text := impl.RuleText(exprOfSize(t, 600))
	if _, ok := impl.RuleRead(text); !ok || len(text) != 600 {
		t.Error("a text of 600 bytes is not read")
	}
	if e, ok := impl.RuleRead(text + " "); ok || !isNothing(e) {
		t.Error("601 bytes are read")
	}
	text = impl.RuleText(exprOfSize(t, 601))
	if e, ok := impl.RuleRead(text); ok || !isNothing(e) || len(text) != 601 {
		t.Error("a text of 601 bytes is read")
	}
}

// checkRead holds a text of any look against P4's second half: what is read is ok, and this is its text.
func checkRead(t *testing.T, text string) bool {
	t.Helper()
	e, ok := impl.RuleRead(text)
	if !ok && !isNothing(e) {
		t.Errorf("RuleRead(%q) is refused with %v", text, e)
	}
	if ok && (!okTruth(e) || ruleTextTruth(e) != text || len(text) > 600) {
		t.Errorf("RuleRead(%q) is %v", text, e)
	}
	return ok
}

func TestTextsThatAreNoExpressions(t *testing.T) {
	for _, text := range []string{"", " ", "(", ")", "()", "( )", "-", "--1", "+1", "-0", "00", "01", "1.0", "1e3", "0x1", "1_000", "1000000001", "-1000000001", "9223372036854775807", "-9223372036854775808", "99999999999999999999",
		"add", "tier", "steps", "if", "A", "abcdefghi", "a b", "1 2", "x ", " x", "x\n", "x\x00", "é",
		"(add)", "(add 1)", "(add 1 2", "add 1 2)", "(add 1 2))", "((add 1 2)", "((add 1 2))", "(add 1 2 3)", "(add  1 2)", "(add 1  2)", "( add 1 2)", "(add 1 2 )", "(add 1 2) ", " (add 1 2)", "(add(add 1 2) 3)", "(add 1 2)3", "(add 1 2)(add 1 2)", "(add\t1 2)", "(add 1\n2)", "(add 1 2:)", "(ADD 1 2)", "(adds 1 2)", "(tier 1 2)", "(x 1 2)", "(1 2)", "(add add 1)",
		"(part x)", "(part x 1 2)", "(part x 1000001)", "(part x -1)", "(part x -0)", "(part x 01)", "(part x y)", "(part 5)", "(part x 1:1)", "(part x +1)", "(part x  1)", "(part x (add 1 2))", "(part x\u00a01)", "(part x 1\u0085)",
		"(if 1 2)", "(if 1 2 3 4)", "(if)", "(min 1)", "(max 1 2 3)", "(sub)", "(times 1 2 3)",
		"(steps x)", "(steps x 1:1)", "(steps x 0:1 0:2)", "(steps x 0:1 1:1)", "(steps 0:1)", "(steps x 1:1 0:1 0:1)", "(steps x 1:1  0:1)", "(steps x 1:1 0:1 )", "(steps x 1 0:1)", "(steps x 0:1 5)", "(steps x 0:1:2)", "(steps x :1)", "(steps x 0:)", "(steps x 00:1)", "(steps x 0:01)", "(steps x -0:1)", "(steps x 0:-1)", "(steps x -1:1 0:1)", "(steps x 0 :1)", "(steps x 0: 1)", "(steps x 1000000001:1 0:1)", "(steps x 1:1000000001 0:1)", "(steps x 0:1000000001)", "(steps x 1:1 1:1 1:1 1:1 1:1 1:1 0:1)", "(steps x y 0:1)", "(steps x a:b)", "(steps x 0:99999999999999999999)",
		strings.Repeat("(", 600), strings.Repeat("(part ", 100), strings.Repeat("(add ", 120), strings.Repeat("(if(if", 100), strings.Repeat("(add x ", 8) + "x" + strings.Repeat(")", 8), "(part " + strings.Repeat("x", 600), strings.Repeat("1", 600), strings.Repeat("1", 601), "0" + strings.Repeat(" ", 600), strings.Repeat("x", 1<<20)} {
		if e, ok := impl.RuleRead(text); ok || !isNothing(e) {
			t.Errorf("RuleRead(%.80q) is %v %v", text, e, ok)
		}
	}
}

// readable says whether a text is an expression, innermost brackets first; of numbers and names within their bounds alone.
func readable(text string) bool {
	if strings.Contains(text, "@") {
		return false
	}
	for before := ""; before != text; {
		before = text
		text = innerBracket.ReplaceAllString(text, "@")
	}
	return wholeExpr.MatchString(text)
}

const (
	numberForm = `(?:0|[1-9][0-9]*)`
	exprForm   = `(?:@|0|-?[1-9][0-9]*|[a-z]+)`
)

var (
	innerBracket = regexp.MustCompile(`\(add ` + exprForm + ` ` + exprForm + `\)|\(part ` + exprForm + ` ` + numberForm + `\)|\(if ` + exprForm + ` ` + exprForm + ` ` + exprForm + `\)|\(steps ` + exprForm + `(?: [1-9][0-9]*:` + numberForm + `)* 0:` + numberForm + `\)`)
	wholeExpr    = regexp.MustCompile(`^` + exprForm + `$`)
)

// Each text of few pieces: P4.
func TestReadOfAllShortTexts(t *testing.T) {
	pieces := []string{"(add", "(part", "(if", "(steps", ")", " ", " x", " 1", " 0:1", "1", "x"}
	read := 0
	var walk func(text string, left int)
	walk = func(text string, left int) {
		ok := checkRead(t, text)
		if ok != readable(text) {
			t.Errorf("RuleRead(%q) says %v", text, ok)
		}
		if ok {
			read++
		}
		for _, piece := range pieces {
			if left > 0 {
				walk(text+piece, left-1)
			}
		}
	}
	walk("", 5)
	if read < 50 {
		t.Error("too few texts are read", read)
	}
}

// Each text that is one byte off, put in, left out or turned: P4's second half.
func TestReadOfTextsOneByteOff(t *testing.T) {
	texts := []string{"-12", "(add (steps calls 100:0 1000:2 0:1) (if gb (max 500 (part gb 12500)) 0))", "(sub -1 (times a (min b 1000000000)))"}
	for _, text := range texts {
		if !checkRead(t, text) {
			t.Errorf("%q is not read", text)
		}
		for i := range len(text) + 1 {
			checkRead(t, text[:i])
			checkRead(t, text[i:])
			for b := range 256 {
				checkRead(t, text[:i]+string([]byte{byte(b)})+text[i:])
				if i < len(text) {
					checkRead(t, text[:i]+string([]byte{byte(b)})+text[i+1:])
				}
			}
			for j := i; j <= len(text); j++ {
				checkRead(t, text[:i]+text[j:])
				checkRead(t, text[:j]+text[i:])
			}
		}
	}
}

func TestRuleOf(t *testing.T) {
	uses := []impl.RuleUse{{Meter: "a", Qty: 3}, {Meter: "b", Qty: -4}, {Meter: "a", Qty: 5}, {Meter: "", Qty: 6}, {Meter: "if", Qty: math.MaxInt}, {Meter: "big", Qty: math.MinInt}, {Meter: "zero"}, {Meter: "zero", Qty: 9}}
	for meter, want := range map[string]int{"a": 3, "b": -4, "": 6, "if": math.MaxInt, "big": math.MinInt, "zero": 0, "c": 0, "A": 0, "ab": 0, "bi": 0, "bigg": 0, "a\x00": 0} {
		if got := impl.RuleOf(uses, meter); got != want {
			t.Errorf("RuleOf of %q is %d, not %d", meter, got, want)
		}
	}
	if impl.RuleOf(nil, "") != 0 || impl.RuleOf([]impl.RuleUse{}, "a") != 0 {
		t.Error("something of no uses")
	}
}

// stepTruth is RuleStep of steps that are right, by unbounded numbers.
func stepTruth(tiers []impl.RuleTier, qty *big.Int) (*big.Int, bool) {
	if !isAmount(qty) {
		return new(big.Int), false
	}
	sum := new(big.Int)
	left := new(big.Int).Set(qty)
	for i := 0; i < len(tiers) && left.Sign() > 0; i++ {
		units := new(big.Int).Set(left)
		if size := wide(tiers[i].Size); tiers[i].Size != 0 && size.Cmp(units) < 0 {
			units = size
		}
		cost := new(big.Int).Mul(units, wide(tiers[i].Price))
		sum.Add(sum, cost)
		left.Sub(left, units)
		if !isAmount(cost) || !isAmount(sum) {
			return new(big.Int), false
		}
	}
	return sum, true
}

func checkStep(t *testing.T, tiers []impl.RuleTier, qty int) {
	t.Helper()
	want, wantOk := stepTruth(tiers, wide(qty))
	got, ok := impl.RuleStep(tiers, qty)
	if ok != wantOk || wide(got).Cmp(want) != 0 {
		t.Errorf("RuleStep(%v, %d) is %d %v, not %s %v", tiers, qty, got, ok, want, wantOk)
	}
}

func TestStepsByHand(t *testing.T) {
	for _, c := range []struct {
		tiers []impl.RuleTier
		qty   int
		want  int
		ok    bool
	}{
		{tiersOf(10, 5, 0, 3), 12, 56, true}, {tiersOf(10, 5, 0, 3), 10, 50, true}, {tiersOf(10, 5, 0, 3), 11, 53, true}, {tiersOf(10, 5, 0, 3), 9, 45, true},
		{tiersOf(10, 5, 0, 3), 0, 0, true}, {tiersOf(10, 5, 0, 3), -1, 0, true}, {tiersOf(10, 5, 0, 3), -impl.CoinMax, 0, true},
		{tiersOf(10, 5, 0, 3), -impl.CoinMax - 1, 0, false}, {tiersOf(10, 5, 0, 3), impl.CoinMax + 1, 0, false}, {tiersOf(10, 0, 0, 0), math.MaxInt, 0, false}, {tiersOf(10, 0, 0, 0), math.MinInt, 0, false},
		{tiersOf(0, 0), impl.CoinMax, 0, true}, {tiersOf(0, 1), impl.CoinMax, impl.CoinMax, true}, {tiersOf(0, 2), impl.CoinMax, 0, false}, {tiersOf(0, 2), impl.CoinMax / 2, impl.CoinMax, true}, {tiersOf(0, 2), impl.CoinMax/2 + 1, 0, false},
		{tiersOf(1000000000, 1000000, 0, 1), 1000000000, impl.CoinMax, true}, {tiersOf(1000000000, 1000000, 0, 1), 1000000001, 0, false}, {tiersOf(1000000000, 1000000, 0, 0), 1000000001, impl.CoinMax, true}, {tiersOf(1000000000, 1000001, 0, 0), 1000000000, 0, false},
		{tiersOf(1, 1000000000, 0, 0), impl.CoinMax, 1000000000, true}, {tiersOf(1, 1, 1, 2, 1, 4, 1, 8, 1, 16, 0, 32), 7, 95, true}, {tiersOf(1, 1, 1, 2, 1, 4, 1, 8, 1, 16, 0, 32), 4, 15, true}, {tiersOf(5, 0, 0, 1), impl.CoinMax, impl.CoinMax - 5, true},
	} {
		if got, ok := impl.RuleStep(c.tiers, c.qty); got != c.want || ok != c.ok {
			t.Errorf("RuleStep(%v, %d) is %d %v, not %d %v", c.tiers, c.qty, got, ok, c.want, c.ok)
		}
	}
}

func drawTiers(r *rand.Rand, most int) []impl.RuleTier {
	var numbers []int
	for range r.Intn(6) {
		numbers = append(numbers, 1+r.Intn(most), r.Intn(most+1))
	}
	return tiersOf(append(numbers, 0, r.Intn(most+1))...)
}

// P6 unit by unit: what one unit more costs is the price of the step that it is in.
func TestOneUnitMoreCostsThePriceOfAStep(t *testing.T) {
	r := rand.New(rand.NewSource(22))
	for range 2000 {
		tiers := drawTiers(r, 8)
		var prices []int
		for _, tier := range tiers {
			prices = append(prices, slices.Repeat([]int{tier.Price}, tier.Size)...)
		}
		want := 0
		for qty := range 60 {
			if got, ok := impl.RuleStep(tiers, qty); !ok || got != want {
				t.Fatalf("RuleStep(%v, %d) is %d %v, not %d", tiers, qty, got, ok, want)
			}
			price := tiers[len(tiers)-1].Price
			if qty < len(prices) {
				price = prices[qty]
			}
			want += price
		}
	}
}

// P6 for great numbers, and where it comes to no amount any more.
func TestStepsOfManyAmounts(t *testing.T) {
	r := rand.New(rand.NewSource(23))
	for range 20000 {
		tiers := drawTiers(r, max(1, impl.RuleMaxNum>>r.Intn(30)))
		qty := drawCoin(r)
		checkStep(t, tiers, qty)
		checkStep(t, tiers, qty+1)
		checkStep(t, tiers, []int{impl.CoinMax, impl.CoinMax + 1, -impl.CoinMax, math.MaxInt, math.MinInt, 0}[r.Intn(6)])
		sum := 0
		for _, tier := range tiers {
			sum += tier.Size
			checkStep(t, tiers, sum-1)
			checkStep(t, tiers, sum)
			checkStep(t, tiers, sum+1)
		}
		less, lessOk := impl.RuleStep(tiers, qty)
		more, moreOk := impl.RuleStep(tiers, qty+r.Intn(1000))
		if moreOk && (!lessOk || less > more) {
			t.Errorf("%v: more of %d costs less", tiers, qty)
		}
	}
	for _, qty := range coinEdges() {
		checkStep(t, tiersOf(100, 3, 0, 1), qty)
		checkStep(t, tiersOf(0, 0), qty)
		checkStep(t, tiersOf(1000000000, 1000000000, 0, 1000000000), qty)
	}
}

// ruleEnd is what ends a run of the reckoning below.
type ruleEnd int

type ruleTruth struct {
	uses        []impl.RuleUse
	fuel, taken int
}

// ruleRunTruth is RuleRun of an expression that is ok and fuel within bounds, by unbounded numbers.
func ruleRunTruth(e impl.RuleExpr, uses []impl.RuleUse, fuel int) (value, code, taken int) {
	run := &ruleTruth{uses: uses, fuel: fuel}
	defer func() {
		if end := recover(); end != nil {
			value, code, taken = 0, int(end.(ruleEnd)), run.taken
		}
	}()
	return int(run.value(e).Int64()), impl.RuleDone, run.taken
}

func (run *ruleTruth) value(e impl.RuleExpr) *big.Int {
	if run.taken == run.fuel {
		panic(ruleEnd(impl.RuleFuel))
	}
	run.taken++
	n := run.unchecked(e)
	if !isAmount(n) {
		panic(ruleEnd(impl.RuleOver))
	}
	return n
}

func (run *ruleTruth) unchecked(e impl.RuleExpr) *big.Int {
	switch e.Kind {
	case impl.RuleNum:
		return wide(e.Num)
	case impl.RuleMeter:
		for _, use := range run.uses {
			if use.Meter == e.Meter {
				return wide(use.Qty)
			}
		}
		return wide(0)
	}
	first := run.value(e.Kids[0])
	switch e.Kind {
	case impl.RulePart:
		n, ok := impl.CoinPart(int(first.Int64()), e.Num, 10000)
		if !ok {
			panic(ruleEnd(impl.RuleOver))
		}
		return wide(n)
	case impl.RuleIf:
		if first.Sign() > 0 {
			return run.value(e.Kids[1])
		}
		return run.value(e.Kids[2])
	case impl.RuleTiers:
		n, ok := stepTruth(e.Tiers, first)
		if !ok {
			panic(ruleEnd(impl.RuleOver))
		}
		return n
	}
	second := run.value(e.Kids[1])
	switch e.Kind {
	case impl.RuleAdd:
		return new(big.Int).Add(first, second)
	case impl.RuleSub:
		return new(big.Int).Sub(first, second)
	case impl.RuleTimes:
		return new(big.Int).Mul(first, second)
	}
	if (e.Kind == impl.RuleMin) == (first.Cmp(second) < 0) {
		return first
	}
	return second
}

func TestRunsByHand(t *testing.T) {
	uses := []impl.RuleUse{{Meter: "many", Qty: impl.CoinMax}, {Meter: "least", Qty: -impl.CoinMax}, {Meter: "over", Qty: impl.CoinMax + 1}, {Meter: "under", Qty: -impl.CoinMax - 1}, {Meter: "wrap", Qty: math.MaxInt}, {Meter: "low", Qty: math.MinInt}, {Meter: "two", Qty: 2}, {Meter: "two", Qty: 3}}
	for _, c := range []struct {
		text              string
		fuel              int
		value, code, took int
	}{
		{"-7", 1, -7, 0, 1}, {"-7", 0, 0, impl.RuleFuel, 0}, {"two", 1, 2, 0, 1}, {"none", 9, 0, 0, 1}, {"many", 1, impl.CoinMax, 0, 1}, {"least", 1, -impl.CoinMax, 0, 1},
		{"over", 1, 0, impl.RuleOver, 1}, {"over", 0, 0, impl.RuleFuel, 0}, {"under", 5, 0, impl.RuleOver, 1}, {"wrap", 5, 0, impl.RuleOver, 1}, {"low", 5, 0, impl.RuleOver, 1},
		{"(add 2 3)", 3, 5, 0, 3}, {"(add 2 3)", 2, 0, impl.RuleFuel, 2}, {"(sub 2 3)", 3, -1, 0, 3}, {"(times -2 3)", 3, -6, 0, 3}, {"(min 2 -3)", 3, -3, 0, 3}, {"(min -3 2)", 3, -3, 0, 3}, {"(max 2 -3)", 3, 2, 0, 3}, {"(max -3 2)", 3, 2, 0, 3}, {"(min 2 2)", 3, 2, 0, 3},
		{"(part 999 725)", 2, 72, 0, 2}, {"(part -999 725)", 2, -72, 0, 2}, {"(part 100 10000)", 2, 100, 0, 2}, {"(part 1 1000000)", 2, 100, 0, 2}, {"(part many 10001)", 2, 0, impl.RuleOver, 2}, {"(part many 10000)", 2, impl.CoinMax, 0, 2}, {"(part many 0)", 2, 0, 0, 2},
		{"(add many 1)", 9, 0, impl.RuleOver, 3}, {"(add many 0)", 9, impl.CoinMax, 0, 3}, {"(sub least 1)", 9, 0, impl.RuleOver, 3}, {"(sub 0 least)", 9, impl.CoinMax, 0, 3}, {"(sub many least)", 9, 0, impl.RuleOver, 3}, {"(times many 1)", 9, impl.CoinMax, 0, 3}, {"(times many 2)", 9, 0, impl.RuleOver, 3}, {"(times many many)", 9, 0, impl.RuleOver, 3},
		// What is not run takes no fuel and ends nothing.
		{"(if 1 2 over)", 9, 2, 0, 3}, {"(if 0 over 3)", 9, 3, 0, 3}, {"(if -1 over 3)", 9, 3, 0, 3}, {"(if 1 over 3)", 9, 0, impl.RuleOver, 3}, {"(if over 2 3)", 9, 0, impl.RuleOver, 2}, {"(if 1 2 (add (add 1 2) 3))", 3, 2, 0, 3}, {"(if 1 2 3)", 2, 0, impl.RuleFuel, 2}, {"(if 0 (add 1 2) 3)", 3, 3, 0, 3},
		// Of two ends the first comes first.
		{"(add over (add 1 2))", 2, 0, impl.RuleOver, 2}, {"(add over (add 1 2))", 1, 0, impl.RuleFuel, 1}, {"(add 1 over)", 2, 0, impl.RuleFuel, 2}, {"(add 1 over)", 3, 0, impl.RuleOver, 3}, {"(add many 1)", 2, 0, impl.RuleFuel, 2}, {"(add (add many 1) (add 1 2))", 4, 0, impl.RuleOver, 4}, {"(min over under)", 9, 0, impl.RuleOver, 2}, {"(times 0 over)", 9, 0, impl.RuleOver, 3},
		{"(steps 1200 100:0 1000:2 0:1)", 2, 2100, 0, 2}, {"(steps two 1:5 0:1)", 9, 6, 0, 2}, {"(steps -5 0:7)", 9, 0, 0, 2}, {"(steps many 0:1000000000)", 9, 0, impl.RuleOver, 2}, {"(max many (steps many 0:0))", 9, impl.CoinMax, 0, 4},
	} {
		e, ok := impl.RuleRead(c.text)
		if !ok {
			t.Errorf("%q is not read", c.text)
		}
		if value, code, took := impl.RuleRun(e, uses, c.fuel); value != c.value || code != c.code || took != c.took {
			t.Errorf("%q with %d: %d %d %d, not %d %d %d", c.text, c.fuel, value, code, took, c.value, c.code, c.took)
		}
	}
}

func TestFuelAtItsBounds(t *testing.T) {
	for _, e := range []impl.RuleExpr{num(5), pair(impl.RuleAdd, num(1), num(2)), bushOf(40)} {
		for _, fuel := range []int{-1, -2, -1000, 1001, 1 << 32, 1<<32 + 5, math.MaxInt, math.MinInt} {
			if value, code, taken := impl.RuleRun(e, nil, fuel); value != 0 || code != impl.RuleForm || taken != 0 {
				t.Errorf("fuel %d: %d %d %d", fuel, value, code, taken)
			}
		}
		count, _ := countExprs(e)
		for fuel := range 1001 {
			_, code, taken := impl.RuleRun(e, nil, fuel)
			if fuel < count && (code != impl.RuleFuel || taken != fuel) {
				t.Errorf("fuel %d of %d: %d %d", fuel, count, code, taken)
			}
			if fuel >= count && (code != impl.RuleDone || taken != count) {
				t.Errorf("fuel %d of %d: %d %d", fuel, count, code, taken)
			}
		}
	}
}

// P5, and each answer by unbounded numbers.
func TestRunsOfManyExpressions(t *testing.T) {
	r := rand.New(rand.NewSource(24))
	ends := map[int]int{}
	for range 20000 {
		e := drawExpr(r, 1+r.Intn(6))
		if !okTruth(e) {
			continue
		}
		uses := drawUses(r)
		count, _ := countExprs(e)
		full := [3]int{}
		full[0], full[1], full[2] = impl.RuleRun(e, uses, impl.RuleMaxFuel)
		ends[full[1]]++
		if full[1] == impl.RuleFuel || full[2] > count || full[2] < 1 {
			t.Fatalf("%s takes %d of %d", ruleTextTruth(e), full[2], count)
		}
		for fuel := range count + 3 {
			var got, want [3]int
			got[0], got[1], got[2] = impl.RuleRun(e, uses, fuel)
			want[0], want[1], want[2] = ruleRunTruth(e, uses, fuel)
			if got != want {
				t.Fatalf("%s of %v with %d: %v, not %v", ruleTextTruth(e), uses, fuel, got, want)
			}
			if got[1] != impl.RuleFuel && got != full {
				t.Fatalf("%s of %v with %d: %v, with more %v", ruleTextTruth(e), uses, fuel, got, full)
			}
			if (got[1] == impl.RuleFuel) != (fuel < full[2]) || got[1] == impl.RuleFuel && got != [3]int{0, impl.RuleFuel, fuel} {
				t.Fatalf("%s of %v with %d: %v", ruleTextTruth(e), uses, fuel, got)
			}
		}
	}
	if ends[impl.RuleDone] < 1000 || ends[impl.RuleOver] < 500 {
		t.Error("too few of an end", ends)
	}
}

// roomy is a copy of an expression with spare room behind the end of each list, and something in it.
func roomy(e impl.RuleExpr) impl.RuleExpr {
	kids := make([]impl.RuleExpr, 0, len(e.Kids)+2)
	for _, kid := range e.Kids {
		kids = append(kids, roomy(kid))
	}
	n := len(kids)
	e.Kids = append(kids, meter("spare"), num(77))[:n]
	n = len(e.Tiers)
	e.Tiers = append(slices.Clone(e.Tiers), tiersOf(77, 78, 79, 80)...)[:n]
	return e
}

// withRoom is all that an expression holds and has behind the ends of its lists, as one value.
func withRoom(e impl.RuleExpr) impl.RuleExpr {
	kids := e.Kids[:cap(e.Kids)]
	e.Kids = make([]impl.RuleExpr, len(kids))
	for i, kid := range kids {
		e.Kids[i] = withRoom(kid)
	}
	e.Tiers = slices.Clone(e.Tiers[:cap(e.Tiers)])
	return e
}

func TestRulesWriteIntoNoArgument(t *testing.T) {
	r := rand.New(rand.NewSource(25))
	for range 500 {
		e := roomy(drawExpr(r, 1+r.Intn(5)))
		uses := append(drawUses(r), impl.RuleUse{Meter: "spare", Qty: 77})
		uses = uses[:len(uses)-1]
		before := withRoom(e)
		usesBefore := slices.Clone(uses[:cap(uses)])
		tiers := append(drawTiers(r, 100), tiersOf(7, 8)...)
		tiersBefore := slices.Clone(tiers)
		for range 2 {
			impl.RuleOk(e)
			impl.RuleText(e)
			impl.RuleRun(e, uses, 1000)
			impl.RuleRun(e, uses, 2)
			impl.RuleOf(uses, "a")
			impl.RuleStep(tiers[:len(tiers)-1], 150)
		}
		if !reflect.DeepEqual(withRoom(e), before) || !slices.Equal(uses[:cap(uses)], usesBefore) || !slices.Equal(tiers, tiersBefore) {
			t.Fatal("an argument was written into")
		}
	}
}

// listsApart notes each place of each list of an expression, spare room too, and says whether none was noted before.
func listsApart(e impl.RuleExpr, kids map[*impl.RuleExpr]int, tiers map[*impl.RuleTier]int) bool {
	apart := true
	for i := range e.Kids[:cap(e.Kids)] {
		kids[&e.Kids[:cap(e.Kids)][i]]++
		apart = apart && kids[&e.Kids[:cap(e.Kids)][i]] == 1
	}
	for i := range e.Tiers[:cap(e.Tiers)] {
		tiers[&e.Tiers[:cap(e.Tiers)][i]]++
		apart = apart && tiers[&e.Tiers[:cap(e.Tiers)][i]] == 1
	}
	for _, kid := range e.Kids {
		apart = apart && listsApart(kid, kids, tiers)
	}
	return apart
}

func TestReadExpressionsShareNoLists(t *testing.T) {
	r := rand.New(rand.NewSource(26))
	for range 2000 {
		e := drawExpr(r, 1+r.Intn(6))
		text := impl.RuleText(e)
		kids := map[*impl.RuleExpr]int{}
		tiers := map[*impl.RuleTier]int{}
		for range 2 {
			got, _ := impl.RuleRead(text)
			if !listsApart(got, kids, tiers) {
				t.Fatalf("%q: two lists share memory", text)
			}
		}
	}
}
