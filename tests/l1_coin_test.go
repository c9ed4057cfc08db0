package tests

import (
	"math"
	"math/big"
	"math/rand"
	"regexp"
	"slices"
	"strconv"
	"strings"
	"testing"

	"loop.example/scot/impl"
)

// The table of the document says these values; the tests below reckon with the names.
func TestCoinBounds(t *testing.T) {
	if impl.CoinMax != 1000000000000000 || impl.CoinRate != 1000000 || impl.CoinParts != 16 {
		t.Error(impl.CoinMax, impl.CoinRate, impl.CoinParts)
	}
}

// coinEdges is numbers about which amounts, products and sums turn: each limit, one more, and what wraps round.
func coinEdges() []int {
	edges := []int{0}
	for _, n := range []int{1, 2, 3, 7, 99, 100, 101, 12345, impl.CoinRate, 1000000000,
		31622776, 31622777, 33554432, 1 << 31, 1 << 32, 1<<32 + 1, 3037000500, 4294967311,
		impl.CoinMax / 3, impl.CoinMax / 2, impl.CoinMax, math.MaxInt / 2, math.MaxInt - impl.CoinMax, math.MaxInt - 1} {
		for d := -1; d <= 1; d++ {
			edges = append(edges, n+d, -n-d)
		}
	}
	return append(edges, math.MinInt, math.MinInt+1, math.MinInt+impl.CoinMax, math.MinInt/2, 1<<62, -1<<62)
}

func isAmount(n *big.Int) bool {
	return n.CmpAbs(big.NewInt(impl.CoinMax)) <= 0
}

func wide(n int) *big.Int { return big.NewInt(int64(n)) }

// drawCoin is a number of any size up to somewhat more than an amount, small ones being as likely as great ones.
func drawCoin(r *rand.Rand) int {
	n := r.Intn(2*impl.CoinMax) >> r.Intn(51)
	if r.Intn(2) == 0 {
		return -n
	}
	return n
}

func TestCoinOk(t *testing.T) {
	for _, n := range []int{0, 1, -1, 99, impl.CoinMax - 1, impl.CoinMax, -impl.CoinMax, 1 - impl.CoinMax} {
		if !impl.CoinOk(n) {
			t.Errorf("%d is an amount", n)
		}
	}
	for _, n := range []int{impl.CoinMax + 1, -impl.CoinMax - 1, 2 * impl.CoinMax, math.MaxInt, math.MinInt, math.MinInt + 1} {
		if impl.CoinOk(n) {
			t.Errorf("%d is no amount", n)
		}
	}
	for _, n := range coinEdges() {
		if impl.CoinOk(n) != isAmount(wide(n)) {
			t.Errorf("CoinOk(%d) is %v", n, impl.CoinOk(n))
		}
	}
}

// checkExact holds an answer against one of unbounded numbers: P1.
func checkExact(t *testing.T, name string, a, b, got int, ok bool, truth *big.Int) {
	t.Helper()
	want := isAmount(wide(a)) && isAmount(wide(b)) && isAmount(truth)
	if ok != want {
		t.Errorf("%s(%d, %d) says %v, not %v", name, a, b, ok, want)
	}
	if !want {
		truth = new(big.Int)
	}
	if wide(got).Cmp(truth) != 0 {
		t.Errorf("%s(%d, %d) is %d, not %s", name, a, b, got, truth)
	}
}

func checkSumAndProduct(t *testing.T, a, b int) {
	t.Helper()
	sum, ok := impl.CoinAdd(a, b)
	checkExact(t, "CoinAdd", a, b, sum, ok, new(big.Int).Add(wide(a), wide(b)))
	product, ok := impl.CoinTimes(a, b)
	checkExact(t, "CoinTimes", a, b, product, ok, new(big.Int).Mul(wide(a), wide(b)))
}

// P1.
func TestSumsAndProductsAreExactOrNone(t *testing.T) {
	edges := coinEdges()
	for _, a := range edges {
		for _, b := range edges {
			checkSumAndProduct(t, a, b)
		}
	}
	r := rand.New(rand.NewSource(1))
	for range 100000 {
		a, b := drawCoin(r), drawCoin(r)
		checkSumAndProduct(t, a, b)
		checkSumAndProduct(t, a, a)
		if a != 0 {
			// About the greatest number with which the product is an amount still.
			for d := -1; d <= 1; d++ {
				checkSumAndProduct(t, a, impl.CoinMax/a+d)
				checkSumAndProduct(t, a, -impl.CoinMax/a+d)
			}
		}
	}
}

// P1, without the reckoning of the test above.
func TestSumsAndProductsByHand(t *testing.T) {
	type answer struct {
		n  int
		ok bool
	}
	add := func(a, b int) answer { n, ok := impl.CoinAdd(a, b); return answer{n, ok} }
	times := func(a, b int) answer { n, ok := impl.CoinTimes(a, b); return answer{n, ok} }
	for i, c := range []struct{ got, want answer }{
		{add(2, 3), answer{5, true}},
		{add(2, -3), answer{-1, true}},
		{add(impl.CoinMax, 0), answer{impl.CoinMax, true}},
		{add(impl.CoinMax-1, 1), answer{impl.CoinMax, true}},
		{add(impl.CoinMax, 1), answer{}},
		{add(-impl.CoinMax, -1), answer{}},
		{add(-impl.CoinMax, impl.CoinMax), answer{0, true}},
		{add(impl.CoinMax+1, -1), answer{}},
		{add(-1, impl.CoinMax+1), answer{}},
		{add(math.MinInt, math.MinInt), answer{}},
		{add(math.MaxInt, math.MinInt), answer{}},
		{times(12, -12), answer{-144, true}},
		{times(0, impl.CoinMax), answer{0, true}},
		{times(0, impl.CoinMax+1), answer{}},
		{times(math.MinInt, 0), answer{}},
		{times(math.MinInt, -1), answer{}},
		{times(-1, math.MinInt), answer{}},
		{times(31622776, 31622776), answer{999999961946176, true}},
		{times(31622777, 31622777), answer{}},
		{times(1<<32, 1<<32), answer{}},
		{times(100000000, 10000000), answer{impl.CoinMax, true}},
		{times(-100000000, 10000000), answer{-impl.CoinMax, true}},
		{times(7, 142857142857143), answer{}},
		{times(-7, 142857142857143), answer{}},
		{times(impl.CoinMax, impl.CoinMax), answer{}},
	} {
		if c.got != c.want {
			t.Errorf("case %d: %v, not %v", i, c.got, c.want)
		}
	}
}

// partTruth is what CoinPart must answer, reckoned with unbounded numbers.
func partTruth(a, n, d int) (int, bool) {
	if !isAmount(wide(a)) || n < 0 || n > impl.CoinRate || d < 1 || d > impl.CoinRate {
		return 0, false
	}
	product := new(big.Int).Mul(wide(a), wide(n))
	// Rounded down to below (not towards 0): of it and the next one the nearer is taken, or the even one.
	below, rest := new(big.Int).DivMod(product, wide(d), new(big.Int))
	twice := new(big.Int).Lsh(rest, 1).Cmp(wide(d))
	if twice > 0 || twice == 0 && below.Bit(0) == 1 {
		below.Add(below, big.NewInt(1))
	}
	cut := new(big.Int).Mul(new(big.Int).Quo(wide(a), wide(d)), wide(n))
	if !isAmount(below) || !isAmount(cut) {
		return 0, false
	}
	return int(below.Int64()), true
}

// checkPart holds CoinPart against the truth, and against what P2 says of it.
func checkPart(t *testing.T, a, n, d int) {
	t.Helper()
	got, ok := impl.CoinPart(a, n, d)
	want, wantOk := partTruth(a, n, d)
	if got != want || ok != wantOk {
		t.Errorf("CoinPart(%d, %d, %d) is %d %v, not %d %v", a, n, d, got, ok, want, wantOk)
	}
	if minus, same := impl.CoinPart(-a, n, d); a != math.MinInt && (minus != -got || same != ok) {
		t.Errorf("CoinPart(%d, %d, %d) is %d %v, but %d %v with the other sign", a, n, d, got, ok, minus, same)
	}
	if !ok {
		return
	}
	away := new(big.Int).Sub(new(big.Int).Mul(wide(got), wide(d)), new(big.Int).Mul(wide(a), wide(n)))
	if away.Lsh(away, 1).CmpAbs(wide(d)) > 0 {
		t.Errorf("CoinPart(%d, %d, %d) is %d, more than half a unit away", a, n, d, got)
	}
}

// P2.
func TestPartsOfSmallAmounts(t *testing.T) {
	for a := -60; a <= 60; a++ {
		for n := 0; n <= 12; n++ {
			for d := 1; d <= 12; d++ {
				checkPart(t, a, n, d)
			}
		}
	}
}

// P2: half a unit, above nought and below, goes to the even one.
func TestHalfAUnitGoesToTheEvenOne(t *testing.T) {
	for _, c := range []struct{ a, n, d, want int }{
		{1, 1, 2, 0}, {-1, 1, 2, 0}, {3, 1, 2, 2}, {-3, 1, 2, -2}, {5, 1, 2, 2}, {-5, 1, 2, -2},
		{250, 100, 10000, 2}, {-250, 100, 10000, -2}, {350, 100, 10000, 4}, {-350, 100, 10000, -4},
		{249, 100, 10000, 2}, {251, 100, 10000, 3}, {-251, 100, 10000, -3}, {349, 100, 10000, 3}, {-349, 100, 10000, -3},
		{999999999999999, 1, 2, 500000000000000}, {-999999999999999, 1, 2, -500000000000000},
		{999999999999997, 1, 2, 499999999999998}, {3, 500000, 1000000, 2}, {1, 1000000, 1, 1000000},
		{1, 1, 1000000, 0}, {500000, 1, 1000000, 0}, {500001, 1, 1000000, 1}, {1500000, 1, 1000000, 2},
	} {
		if got, ok := impl.CoinPart(c.a, c.n, c.d); !ok || got != c.want {
			t.Errorf("CoinPart(%d, %d, %d) is %d %v, not %d", c.a, c.n, c.d, got, ok, c.want)
		}
	}
}

// P2: at what is out of bounds, and at bounds met exactly.
func TestPartsAtTheBounds(t *testing.T) {
	rates := []int{math.MinInt, -impl.CoinRate, -1, 0, 1, 2, 3, 7, 725, 9999, 10000, 65536, 500000, 999983, impl.CoinRate - 1, impl.CoinRate, impl.CoinRate + 1, math.MaxInt}
	for _, a := range coinEdges() {
		for _, n := range rates {
			for _, d := range rates {
				checkPart(t, a, n, d)
			}
		}
	}
	for _, c := range []struct{ a, n, d int }{
		{impl.CoinMax + 1, 0, 1}, {-impl.CoinMax - 1, 0, 1}, {math.MinInt, 0, 1}, {math.MaxInt, 0, 1},
		{1, -1, 1}, {1, impl.CoinRate + 1, impl.CoinRate}, {0, impl.CoinRate + 1, 1}, {0, -1, 1}, {0, math.MinInt, 1},
		{1, 1, 0}, {0, 0, 0}, {1, 1, -1}, {1, 1, impl.CoinRate + 1}, {0, 0, math.MinInt},
		{impl.CoinMax, 2, 1}, {-impl.CoinMax, 2, 1}, {impl.CoinMax, impl.CoinRate, 1}, {142857142857143, 7, 1},
	} {
		if got, ok := impl.CoinPart(c.a, c.n, c.d); got != 0 || ok {
			t.Errorf("CoinPart(%d, %d, %d) is %d %v, not 0 false", c.a, c.n, c.d, got, ok)
		}
	}
	// A half above the greatest amount goes to the even one, which is that.
	if got, ok := impl.CoinPart(666666666666667, 3, 2); !ok || got != impl.CoinMax {
		t.Error(got, ok)
	}
}

// P2: where an answer comes to be just an amount, or just none.
func TestPartsAboutTheGreatestAmount(t *testing.T) {
	r := rand.New(rand.NewSource(2))
	for range 20000 {
		d := 1 + r.Intn(impl.CoinRate)>>r.Intn(20)
		n := min(d+r.Intn(impl.CoinRate)>>r.Intn(20), impl.CoinRate)
		last := new(big.Int).Quo(new(big.Int).Mul(wide(impl.CoinMax), wide(d)), wide(n))
		for a := -3; a <= 3; a++ {
			checkPart(t, int(last.Int64())+a, n, d)
		}
	}
}

// P2.
func TestPartsOfManyAmounts(t *testing.T) {
	r := rand.New(rand.NewSource(3))
	for range 200000 {
		n := r.Intn(impl.CoinRate+1) >> r.Intn(20)
		d := 1 + r.Intn(impl.CoinRate)>>r.Intn(20)
		a := drawCoin(r)
		checkPart(t, a, n, d)
		checkPart(t, a, n, 10000)
		// Many halves: the rest by an even d is half of it for every other a.
		checkPart(t, a, n, 2)
		checkPart(t, a, d/2+d%2, d+d%2)
	}
}

// shareTruth is what CoinShare must answer, reckoned with unbounded numbers and without a sort.
func shareTruth(total int, weights []int) []int {
	sum := 0
	for _, w := range weights {
		sum += w
	}
	parts, rests, left := make([]int, len(weights)), make([]int, len(weights)), total
	for i, w := range weights {
		part, rest := new(big.Int).QuoRem(new(big.Int).Mul(wide(total), wide(w)), wide(sum), new(big.Int))
		parts[i], rests[i] = int(part.Int64()), int(rest.Int64())
		left -= parts[i]
	}
	for ; left > 0; left-- {
		best := 0
		for i, rest := range rests {
			if rest > rests[best] {
				best = i
			}
		}
		parts[best]++
		rests[best] = -1
	}
	return parts
}

// checkShare holds CoinShare against the truth, and against what P3 says of it.
func checkShare(t *testing.T, total int, weights []int) {
	t.Helper()
	got, ok := impl.CoinShare(total, weights)
	if want := shareTruth(total, weights); !ok || !slices.Equal(got, want) {
		t.Fatalf("CoinShare(%d, %v) is %v %v, not %v", total, weights, got, ok, want)
	}
	sum, all := 0, 0
	for i, w := range weights {
		sum += w
		all += got[i]
	}
	if all != total {
		t.Errorf("CoinShare(%d, %v) is %v, together %d", total, weights, got, all)
	}
	for i, w := range weights {
		away := new(big.Int).Sub(new(big.Int).Mul(wide(got[i]), wide(sum)), new(big.Int).Mul(wide(total), wide(w)))
		if away.CmpAbs(wide(sum)) >= 0 {
			t.Errorf("CoinShare(%d, %v) is %v: place %d is a unit away from its due", total, weights, got, i)
		}
		for j, v := range weights {
			if w > v && got[i] < got[j] {
				t.Errorf("CoinShare(%d, %v) is %v: place %d has less than %d", total, weights, got, i, j)
			}
		}
	}
}

// P3.
func TestSharesByHand(t *testing.T) {
	for _, c := range []struct {
		total         int
		weights, want []int
	}{
		{0, []int{1}, []int{0}},
		{0, []int{5, 0, 3}, []int{0, 0, 0}},
		{impl.CoinMax, []int{1}, []int{impl.CoinMax}},
		{impl.CoinMax, []int{impl.CoinRate}, []int{impl.CoinMax}},
		{1, []int{1, 1}, []int{1, 0}},
		{1, []int{0, 1, 1}, []int{0, 1, 0}},
		{1, []int{1, 2, 2}, []int{0, 1, 0}},
		{2, []int{1, 2, 2}, []int{0, 1, 1}},
		{3, []int{1, 2, 2}, []int{1, 1, 1}},
		{5, []int{1, 1, 1, 1}, []int{2, 1, 1, 1}},
		{6, []int{1, 1, 1, 1}, []int{2, 2, 1, 1}},
		{7, []int{1, 1, 1, 1}, []int{2, 2, 2, 1}},
		{100, []int{0, 0, 7}, []int{0, 0, 100}},
		{10, []int{1, 2, 3}, []int{2, 3, 5}},
		{10, []int{3, 2, 1}, []int{5, 3, 2}},
		{impl.CoinMax, []int{1, 1, 1}, []int{333333333333334, 333333333333333, 333333333333333}},
		{impl.CoinMax, []int{impl.CoinRate, 0}, []int{impl.CoinMax, 0}},
		{impl.CoinMax, []int{999999, 1}, []int{999999000000000, 1000000000}},
		{15, slices.Repeat([]int{impl.CoinRate}, 16), []int{1, 1, 1, 1, 1, 1, 1, 1, 1, 1, 1, 1, 1, 1, 1, 0}},
	} {
		got, ok := impl.CoinShare(c.total, c.weights)
		if !ok || !slices.Equal(got, c.want) {
			t.Errorf("CoinShare(%d, %v) is %v %v, not %v", c.total, c.weights, got, ok, c.want)
		}
		checkShare(t, c.total, c.weights)
	}
}

// P3.
func TestSharesOfSmallAmounts(t *testing.T) {
	for total := range 30 {
		for code := 1; code < 5*5*5*5; code++ {
			weights := []int{code % 5, code / 5 % 5, code / 25 % 5, code / 125}
			checkShare(t, total, weights)
		}
	}
}

// P3.
func TestSharesOfManyAmounts(t *testing.T) {
	r := rand.New(rand.NewSource(4))
	for range 50000 {
		weights := make([]int, 1+r.Intn(impl.CoinParts))
		shift := r.Intn(20)
		for i := range weights {
			weights[i] = r.Intn(impl.CoinRate+1) >> shift
			if r.Intn(8) == 0 {
				weights[i] = impl.CoinRate * r.Intn(2)
			}
		}
		weights[r.Intn(len(weights))] = impl.CoinRate - r.Intn(2)
		checkShare(t, r.Intn(impl.CoinMax+1)>>r.Intn(51), weights)
		checkShare(t, impl.CoinMax-r.Intn(2), weights)
	}
}

// P3: wrong inputs, and the bounds met exactly.
func TestSharesAtTheBounds(t *testing.T) {
	ones := func(n int) []int { return slices.Repeat([]int{1}, n) }
	for _, c := range []struct {
		total   int
		weights []int
	}{
		{100, nil}, {100, []int{}}, {0, nil}, {100, ones(impl.CoinParts + 1)}, {100, ones(1000)}, {0, ones(17)},
		{100, []int{0}}, {100, make([]int, 16)}, {0, []int{0, 0}},
		{100, []int{-1}}, {100, []int{1, -1}}, {100, []int{-1, 3}}, {100, []int{5, -1, 5}}, {100, []int{math.MinInt, 1}},
		{100, []int{impl.CoinRate + 1}}, {100, []int{1, impl.CoinRate + 1}}, {100, []int{math.MaxInt}}, {100, []int{math.MaxInt, math.MaxInt, 3}},
		{-1, []int{1}}, {-impl.CoinMax, []int{1}}, {impl.CoinMax + 1, []int{1}}, {math.MaxInt, []int{1, 2}}, {math.MinInt, []int{1, 2}},
	} {
		if got, ok := impl.CoinShare(c.total, c.weights); len(got) != 0 || ok {
			t.Errorf("CoinShare(%d, %v) is %v %v, not nothing and false", c.total, c.weights, got, ok)
		}
	}
	for n := 1; n <= impl.CoinParts; n++ {
		for _, total := range []int{0, 1, n - 1, n, n + 1, impl.CoinMax - 1, impl.CoinMax} {
			checkShare(t, total, ones(n))
			checkShare(t, total, slices.Repeat([]int{impl.CoinRate}, n))
		}
	}
}

// The document: nothing is written into an argument or behind its end, and an answer is new memory, spare room included.
func TestSharesKeepToThemselves(t *testing.T) {
	for _, c := range []struct{ total, first int }{{100, 1}, {7, 5}, {-1, 1}, {100, -1}, {impl.CoinMax, impl.CoinRate}} {
		room := []int{71, c.first, 3, 3, 9, 0, 72, 73}
		before := slices.Clone(room)
		weights := room[1:6]
		got, ok := impl.CoinShare(c.total, weights)
		if !slices.Equal(room, before) {
			t.Errorf("CoinShare(%d, %v) wrote into its argument: %v", c.total, before[1:6], room)
		}
		kept := slices.Clone(got)
		for i := range room {
			room[i] = 55
		}
		if !slices.Equal(got, kept) {
			t.Errorf("the answer %v follows its argument: %v", kept, got)
		}
		copy(room, before)
		other, _ := impl.CoinShare(c.total, weights)
		for i := range got[:cap(got)] {
			got[:cap(got)][i] = -7
		}
		if !slices.Equal(room, before) || !slices.Equal(other, kept) {
			t.Errorf("writing into an answer turns %v and %v", room, other)
		}
		again, same := impl.CoinShare(c.total, weights)
		if !slices.Equal(again, kept) || same != ok {
			t.Errorf("a second call answers %v %v, not %v %v", again, same, kept, ok)
		}
	}
}

func TestCoinText(t *testing.T) {
	for n, want := range map[int]string{
		0: "0.00", 1: "0.01", -1: "-0.01", 9: "0.09", 10: "0.10", 99: "0.99", -99: "-0.99", 100: "1.00", -100: "-1.00",
		101: "1.01", -1205: "-12.05", 123456: "1234.56",
		impl.CoinMax: "10000000000000.00", -impl.CoinMax: "-10000000000000.00", impl.CoinMax - 1: "9999999999999.99",
		impl.CoinMax + 1: "", -impl.CoinMax - 1: "", math.MaxInt: "", math.MinInt: "",
	} {
		if got := impl.CoinText(n); got != want {
			t.Errorf("CoinText(%d) is %q, not %q", n, got, want)
		}
	}
}

func TestCoinReadOfCoinText(t *testing.T) {
	check := func(n int) {
		text := impl.CoinText(n)
		got, ok := impl.CoinRead(text)
		if ok != isAmount(wide(n)) || ok && got != n || !ok && (got != 0 || text != "") {
			t.Errorf("CoinRead(%q) of %d is %d %v", text, n, got, ok)
		}
	}
	for n := -20000; n <= 20000; n++ {
		check(n)
	}
	for _, n := range coinEdges() {
		check(n)
	}
	r := rand.New(rand.NewSource(5))
	for range 100000 {
		check(drawCoin(r))
	}
}

var coinForm = regexp.MustCompile(`^-?(0|[1-9][0-9]*)\.[0-9][0-9]$`)

// readTruth is what CoinRead must answer of a text that is short enough for an int.
func readTruth(text string) (int, bool) {
	if !coinForm.MatchString(text) || text == "-0.00" || strings.HasSuffix(text, "\n") {
		return 0, false
	}
	n, err := strconv.Atoi(strings.Replace(text, ".", "", 1))
	if err != nil || !isAmount(wide(n)) {
		return 0, false
	}
	return n, true
}

func TestCoinReadOfAllShortTexts(t *testing.T) {
	const letters = "-+.0159 _"
	texts := []string{""}
	for first := 0; len(texts[first]) < 6; first++ {
		for i := range len(letters) {
			texts = append(texts, texts[first]+letters[i:i+1])
		}
	}
	for _, text := range texts {
		got, ok := impl.CoinRead(text)
		want, wantOk := readTruth(text)
		if got != want || ok != wantOk {
			t.Fatalf("CoinRead(%q) is %d %v, not %d %v", text, got, ok, want, wantOk)
		}
	}
}

func TestCoinReadOfOtherTexts(t *testing.T) {
	for _, text := range []string{
		"10000000000000.01", "-10000000000000.01", "10000000000001.00", "99999999999999.99", "-99999999999999.99",
		"92233720368547758.07", "92233720368547758.08", "-92233720368547758.08", "184467440737095516.16", "184467440737095516.21",
		"0x1.00", "1e2.00", "1.0e", "1.00\n", "\n1.00", "1.00\x00", "\x001.00", " 1.00", "1.00 ", "1.0 0",
		"1..00", "1.00.", ".1.00", "1.0.0", "1,00", "1.-0", "1.+1", "1-.00", "--1.00", "-+1.00", "+1.00", "-.01", "-00.01", "00.00",
		"\u0661.\u0660\u0660", "\uff11.00", "\u22121.00", "1\u00b700", "\xff.00", "\xff\xfe", "NaN", "Inf", "1_0.00", "1.0_0",
		strings.Repeat("0", 100) + "1.00", strings.Repeat("9", 100000) + ".00", strings.Repeat("-", 1000), strings.Repeat(".", 1000),
	} {
		if got, ok := impl.CoinRead(text); got != 0 || ok {
			t.Errorf("CoinRead(%.40q) is %d %v, not 0 false", text, got, ok)
		}
	}
	for text, want := range map[string]int{
		"0.00": 0, "-0.01": -1, "12.05": 1205, "-12.05": -1205, "10000000000000.00": impl.CoinMax, "-10000000000000.00": -impl.CoinMax,
	} {
		if got, ok := impl.CoinRead(text); got != want || !ok {
			t.Errorf("CoinRead(%q) is %d %v, not %d true", text, got, ok, want)
		}
	}
}
