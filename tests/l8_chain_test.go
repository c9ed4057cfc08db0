package tests

import (
	"math"
	"math/rand"
	"slices"
	"strconv"
	"strings"
	"testing"

	"loop.example/scot/impl"
)

const (
	firstHead = 27182
	lastHead  = 65520
	mostTexts = 400
)

func TestChainBounds(t *testing.T) {
	if impl.ChainStart != firstHead || impl.ChainMod != lastHead+1 || impl.ChainMax != mostTexts {
		t.Error(impl.ChainStart, impl.ChainMod, impl.ChainMax)
	}
}

// innerHeads is heads that a chain may have, those at the bounds among them.
func innerHeads() []int {
	return []int{0, 1, 2, 255, 256, 4711, firstHead - 1, firstHead, firstHead + 1, 1 << 15, lastHead - 2, lastHead - 1, lastHead}
}

// outerHeads is numbers that are taken for the first or the last head.
func outerHeads() []int {
	return []int{-1, -2, -firstHead, -lastHead, -lastHead - 1, -1 << 32, math.MinInt + 1, math.MinInt, lastHead + 1, lastHead + 2, lastHead + 1 + firstHead, 1 << 16, 2 * (lastHead + 1), 1 << 32, 1<<32 + 1, 1 << 62, math.MaxInt - 1, math.MaxInt}
}

// mixTruth is ChainMix as the document says it, as one sum: each byte, and what stands ahead of all bytes, counts as often as there are bytes behind it.
func mixTruth(head int, text string) int {
	sum, weight := 0, 1
	for i := len(text) - 1; i >= 0; i-- {
		sum += weight * (int(text[i]) + 1)
		weight = weight * 16777619 % 65521
	}
	ahead := min(max(0, head), 65520) + 65537*len(text) + 1
	return (sum + ahead%65521*weight) % 65521
}

func headsTruth(list []string) []int {
	heads := []int{27182}
	if len(list) <= 400 {
		for i, text := range list {
			heads = append(heads, mixTruth(heads[i], text))
		}
	}
	return heads
}

// oneHead says whether two lists are such that a clash of them is sought.
func oneHead(a, b []string) bool {
	headsA, headsB := headsTruth(a), headsTruth(b)
	return len(a) <= 400 && len(b) <= 400 && headsA[len(a)] == headsB[len(b)]
}

// clashTruth is ChainClash as the document says it: what the lists have in common at their ends, heads ahead too, is left out.
func clashTruth(a, b []string) (int, int, bool) {
	if !oneHead(a, b) {
		return 0, 0, false
	}
	headsA, headsB := headsTruth(a), headsTruth(b)
	common := 0
	for n := 1; n <= len(a) && n <= len(b); n++ {
		fromA, fromB := len(a)-n, len(b)-n
		if slices.Equal(a[fromA:], b[fromB:]) && slices.Equal(headsA[fromA:], headsB[fromB:]) {
			common = n
		}
	}
	return len(a) - common, len(b) - common, len(a) != common || len(b) != common
}

func checkMix(t *testing.T, head int, text string) int {
	t.Helper()
	got := impl.ChainMix(head, text)
	if got != mixTruth(head, text) || got < 0 || got > lastHead {
		t.Fatalf("ChainMix(%d, %.60q) is %d, not %d", head, text, got, mixTruth(head, text))
	}
	return got
}

// checkHeads holds all that is told of one list against the document, and tells its heads.
func checkHeads(t *testing.T, list []string) []int {
	t.Helper()
	room := spared(list, "spare")
	before := slices.Clone(room[:cap(room)])
	want := headsTruth(list)
	last := want[len(want)-1]
	heads, other := impl.ChainHeads(room), impl.ChainHeads(room)
	if !slices.Equal(heads, want) || !slices.Equal(other, want) {
		t.Fatalf("ChainHeads of %d texts is %v and %v, not %v", len(list), heads, other, want)
	}
	checkApart(t, spanOf(heads), spanOf(other))
	if got := impl.ChainHead(room); got != last {
		t.Fatalf("ChainHead of %d texts is %d, not %d", len(list), got, last)
	}
	asked := slices.Concat(innerHeads(), outerHeads(), want, []int{last - 1, last + 1, last + lastHead + 1, last - lastHead - 1, -last})
	for _, head := range asked {
		if got := impl.ChainCheck(room, head); got != (len(list) <= mostTexts && head == last) {
			t.Fatalf("ChainCheck of %d texts, whose head is %d, and %d is %v", len(list), last, head, got)
		}
	}
	if !slices.Equal(room[:cap(room)], before) {
		t.Fatalf("an argument was written into: %v, not %v", room[:cap(room)], before)
	}
	return heads
}

// checkClash holds ChainClash of two lists, and of them turned about, against the document and P20.
func checkClash(t *testing.T, a, b []string) (int, int, bool) {
	t.Helper()
	roomA, roomB := spared(a, "spare"), spared(b, "spare")
	beforeA, beforeB := slices.Clone(roomA[:cap(roomA)]), slices.Clone(roomB[:cap(roomB)])
	leftA, leftB, ok := impl.ChainClash(roomA, roomB)
	wantA, wantB, want := clashTruth(a, b)
	if leftA != wantA || leftB != wantB || ok != want {
		t.Fatalf("ChainClash(%.60q, %.60q) is %d %d %v, not %d %d %v", a, b, leftA, leftB, ok, wantA, wantB, want)
	}
	backB, backA, backOk := impl.ChainClash(roomB, roomA)
	if backA != leftA || backB != leftB || backOk != ok {
		t.Fatalf("ChainClash(%.60q, %.60q) is %d %d %v, and the other way about %d %d %v", a, b, leftA, leftB, ok, backA, backB, backOk)
	}
	if !slices.Equal(roomA[:cap(roomA)], beforeA) || !slices.Equal(roomB[:cap(roomB)], beforeB) {
		t.Fatalf("arguments were written into: %.60q and %.60q", a, b)
	}
	if oneHead(a, b) && !slices.Equal(a, b) {
		checkFoundClash(t, ok, a, b, leftA, leftB)
	}
	return leftA, leftB, ok
}

// checkFoundClash holds P20 of two lists with one head that are unlike, and of the place that is told.
func checkFoundClash(t *testing.T, ok bool, a, b []string, leftA, leftB int) {
	t.Helper()
	if !ok || leftA < 0 || leftA > len(a) || leftB < 0 || leftB > len(b) || leftA+leftB == 0 {
		t.Fatalf("P20: %.60q and %.60q have one head and are unlike, and what is told is %d %d %v", a, b, leftA, leftB, ok)
	}
	headsA, headsB := impl.ChainHeads(a), impl.ChainHeads(b)
	switch {
	case leftA == 0 && headsB[leftB] != firstHead, leftB == 0 && headsA[leftA] != firstHead:
		t.Fatalf("P20: at %d %d of %.60q and %.60q the first head does not come again", leftA, leftB, a, b)
	case leftA == 0 || leftB == 0:
		return
	}
	textA, textB, aheadA, aheadB := a[leftA-1], b[leftB-1], headsA[leftA-1], headsB[leftB-1]
	if textA == textB && aheadA == aheadB {
		t.Fatalf("P20: at %d %d of %.60q and %.60q there is but one input", leftA, leftB, a, b)
	}
	if impl.ChainMix(aheadA, textA) != impl.ChainMix(aheadB, textB) {
		t.Fatalf("P20: at %d %d of %.60q and %.60q there are two mixes", leftA, leftB, a, b)
	}
}

func TestMixesByHand(t *testing.T) {
	for i, c := range []struct {
		head int
		text string
		want int
	}{
		{0, "", 1}, {1, "", 2}, {firstHead, "", 27183}, {lastHead - 1, "", lastHead}, {lastHead, "", 0},
		{-1, "", 1}, {-2, "", 1}, {math.MinInt, "", 1}, {lastHead + 1, "", 0}, {lastHead + 2, "", 0}, {math.MaxInt, "", 0},
		{0, "a", 6708}, {1, "a", 10951}, {-1, "a", 6708}, {math.MinInt, "a", 6708}, {lastHead, "a", 2465}, {lastHead + 1, "a", 2465}, {math.MaxInt, "a", 2465},
		{0, "\x00", 6611}, {0, "\xff", 6866}, {0, "\x00\x00", 25954}, {0, "\xff\xff\xff", 61144}, {lastHead, "\xff\x00", 9288},
		{0, "ab", 44497}, {0, "ba", 48739}, {firstHead, "x", 22997}, {firstHead, "close", 16838}, {firstHead, "é", 24760},
		{firstHead, strings.Repeat("a", 800), 41180}, {firstHead, strings.Repeat("a", 65521), 20607},
	} {
		if got := checkMix(t, c.head, c.text); got != c.want {
			t.Errorf("case %d: ChainMix(%d, %.60q) is %d, not %d", i, c.head, c.text, got, c.want)
		}
	}
}

func TestMixesOfManyTexts(t *testing.T) {
	for _, head := range slices.Concat(innerHeads(), outerHeads()) {
		for _, text := range markedTexts() {
			checkMix(t, head, text)
		}
	}
	r := rand.New(rand.NewSource(8))
	for range 20000 {
		text := make([]byte, r.Intn(100))
		r.Read(text)
		checkMix(t, r.Intn(lastHead+1), string(text))
	}
	checkMix(t, firstHead, strings.Repeat("\xff", 1<<20))
}

// A number out of bounds is taken for the nearest head; behind two heads no text has one mix.
func TestMixesByTheirHeads(t *testing.T) {
	for _, text := range markedTexts() {
		for _, head := range outerHeads() {
			nearest := 0
			if head > 0 {
				nearest = lastHead
			}
			if impl.ChainMix(head, text) != impl.ChainMix(nearest, text) {
				t.Fatalf("the mix of %.60q behind %d is not that behind %d", text, head, nearest)
			}
		}
	}
	for _, text := range []string{"", "a", "\x00", "\xff", "use e1 calls 1250", strings.Repeat("\x00\xff", 20)} {
		seen := make([]bool, lastHead+1)
		for head := range lastHead + 1 {
			mix := impl.ChainMix(head, text)
			if seen[mix] {
				t.Fatalf("behind two heads %.60q has the mix %d", text, mix)
			}
			seen[mix] = true
		}
	}
}

// checkOneByteMixed holds P21 at one place of a text: all bytes that may stand there have mixes of their own.
func checkOneByteMixed(t *testing.T, head int, text string, place int) {
	t.Helper()
	seen := map[int]byte{}
	other := []byte(text)
	for b := range 256 {
		other[place] = byte(b)
		mix := impl.ChainMix(head, string(other))
		if old, there := seen[mix]; there {
			t.Fatalf("P21: behind %d %.60q has the mix %d with the byte %d at place %d, and with %d", head, text, mix, b, place, old)
		}
		seen[mix] = byte(b)
	}
	if old, there := seen[impl.ChainMix(head, text)]; !there || old != text[place] {
		t.Fatalf("P21: the mix of %.60q behind %d is not its own", text, head)
	}
}

// P21, at each place of texts of several lengths, behind heads of all kinds.
func TestATextWithAnotherByteHasAnotherMix(t *testing.T) {
	texts := []string{"a", "\x00", "\xff", "ab", "rekey", "close", "pay 1000", "use e1 calls 1250", "é€", strings.Repeat("\x00", 9), strings.Repeat("\xff", 9)}
	for _, head := range slices.Concat(innerHeads(), outerHeads()) {
		for _, text := range texts {
			for place := range len(text) {
				checkOneByteMixed(t, head, text, place)
			}
		}
	}
	long := strings.Repeat("usage of one period\n", 40)
	for _, place := range []int{0, 1, 399, len(long) - 2, len(long) - 1} {
		checkOneByteMixed(t, firstHead, long, place)
	}
}

// P21, of each text of one byte behind each head that there is.
func TestAllBytesBehindAllHeads(t *testing.T) {
	seen := make([]int, lastHead+1)
	for head := range lastHead + 1 {
		for b := range 256 {
			mix := impl.ChainMix(head, string([]byte{byte(b)}))
			if seen[mix] == head+1 {
				t.Fatalf("P21: behind %d two bytes have the mix %d", head, mix)
			}
			seen[mix] = head + 1
		}
	}
}

// P21, of drawn texts and heads.
func TestDrawnTextsWithAnotherByteMixed(t *testing.T) {
	r := rand.New(rand.NewSource(21))
	for range 20000 {
		text := make([]byte, 1+r.Intn(60))
		r.Read(text)
		head := r.Intn(lastHead + 1)
		before := checkMix(t, head, string(text))
		place, more := r.Intn(len(text)), 1+r.Intn(255)
		text[place] += byte(more)
		if checkMix(t, head, string(text)) == before {
			t.Fatalf("P21: behind %d %q has the mix %d, and had it with another byte at place %d", head, text, before, place)
		}
	}
}

func TestHeadsByHand(t *testing.T) {
	for i, c := range []struct {
		list []string
		want []int
	}{
		{nil, []int{firstHead}},
		{[]string{}, []int{firstHead}},
		{[]string{""}, []int{firstHead, 27183}},
		{[]string{"", "", ""}, []int{firstHead, 27183, 27184, 27185}},
		{[]string{"\x00", "\xff"}, []int{firstHead, 22877, 37376}},
		{[]string{"x", "y", "z"}, []int{firstHead, 22997, 22234, 60876}},
		{[]string{"z", "y", "x"}, []int{firstHead, 22999, 30720, 30422}},
		{[]string{"xyz"}, []int{firstHead, 44240}},
		{[]string{"fjee", "fjee"}, []int{firstHead, firstHead, firstHead}},
		// What the desk's example logs of its tenant, with the head that it tells.
		{[]string{"set base 1900 (steps calls 100:0 1000:2 0:1)", "use e1 calls 1250", "close", "pay 1000"}, []int{firstHead, 22418, 52673, 8368, 38524}},
	} {
		if got := checkHeads(t, c.list); !slices.Equal(got, c.want) {
			t.Errorf("case %d: the heads of %q are %v, not %v", i, c.list, got, c.want)
		}
	}
}

// textsFrom is so many texts, of several lengths and with bytes of all kinds.
func textsFrom(count int) []string {
	list := make([]string, count)
	for i := range list {
		list[i] = []string{"", "\x00", "\xff", "rekey", "close", "use e" + strconv.Itoa(i) + " calls 5", strings.Repeat(string([]byte{byte(i)}), i%30)}[i%7]
	}
	return list
}

func TestHeadsOfManyLists(t *testing.T) {
	for _, count := range []int{0, 1, 2, 3, 7, 20, 100, mostTexts - 1, mostTexts} {
		if heads := checkHeads(t, textsFrom(count)); len(heads) != count+1 {
			t.Errorf("of %d texts there are %d heads", count, len(heads))
		}
	}
	r := rand.New(rand.NewSource(88))
	for range 500 {
		list := make([]string, r.Intn(30))
		for i := range list {
			list[i] = drawBytes(r, "\x00\xffab \n", 12)
		}
		checkHeads(t, list)
	}
}

// Of too many texts there is the first head alone, and it is not theirs.
func TestHeadsOfTooManyTexts(t *testing.T) {
	loop := "fjee"
	for _, count := range []int{mostTexts + 1, mostTexts + 2, 2 * mostTexts, 5000} {
		for _, list := range [][]string{textsFrom(count), make([]string, count), slices.Repeat([]string{loop}, count)} {
			if heads := checkHeads(t, list); !slices.Equal(heads, []int{firstHead}) || impl.ChainHead(list) != firstHead {
				t.Errorf("of %d texts the heads are %v", count, heads)
			}
			if impl.ChainCheck(list, firstHead) || impl.ChainCheck(list, headsTruth(list[:mostTexts])[mostTexts]) {
				t.Errorf("%d texts are said to have a head", count)
			}
		}
	}
	full := slices.Repeat([]string{loop}, mostTexts)
	if heads := checkHeads(t, full); len(heads) != mostTexts+1 || !impl.ChainCheck(full, firstHead) {
		t.Errorf("of as many texts as there may be there are %d heads", len(heads))
	}
}

// textBetween is a text with this beginning whose mix behind one head is the other; three bytes behind the beginning see to that.
func textBetween(t *testing.T, from, to int, front string) string {
	t.Helper()
	const mod, factor = lastHead + 1, 16777619
	lacks := to - mixTruth(from, front+"\x00\x00\x00") + mod
	for x := range 256 {
		for y := range 256 {
			last := ((lacks-factor*(factor%mod*x%mod+y))%mod + mod) % mod
			if text := front + string([]byte{byte(x), byte(y), byte(last)}); last < 256 && impl.ChainMix(from, text) == to {
				return text
			}
		}
	}
	t.Fatalf("no text that begins with %q leads from %d to %d", front, from, to)
	return ""
}

func TestClashesByHand(t *testing.T) {
	for i, c := range []struct {
		a, b         []string
		leftA, leftB int
		ok           bool
	}{
		// The same lists.
		{nil, nil, 0, 0, false},
		{nil, []string{}, 0, 0, false},
		{[]string{""}, []string{""}, 0, 0, false},
		{[]string{"x"}, []string{"x"}, 0, 0, false},
		{[]string{"x", "y", "z"}, []string{"x", "y", "z"}, 0, 0, false},
		{[]string{"fjee", "fjee"}, []string{"fjee", "fjee"}, 0, 0, false},
		// Lists with two heads.
		{[]string{"x"}, []string{"y"}, 0, 0, false},
		{[]string{"x"}, nil, 0, 0, false},
		{[]string{""}, nil, 0, 0, false},
		{[]string{"x", "y", "z"}, []string{"x", "y"}, 0, 0, false},
		{[]string{"x", "y", "z"}, []string{"y", "z"}, 0, 0, false},
		{[]string{"x", "y", "z"}, []string{"z", "y", "x"}, 0, 0, false},
		{[]string{"x", "y", "z"}, []string{"xyz"}, 0, 0, false},
		// One text is another one.
		{[]string{"x"}, []string{"dfem"}, 1, 1, true},
		{[]string{"x", "y"}, []string{"dfem", "y"}, 1, 1, true},
		{[]string{"x", "y", "z"}, []string{"dpjp", "y", "z"}, 1, 1, true},
		{[]string{"x", "y"}, []string{"x", "ahtp"}, 2, 2, true},
		{[]string{"x", "y", "z"}, []string{"x", "arys", "z"}, 2, 2, true},
		{[]string{"fjee"}, []string{"ftjh"}, 1, 1, true},
		// Two texts are, behind two heads or behind one.
		{[]string{"x", "y"}, []string{"p", "jlvc"}, 2, 2, true},
		{[]string{"x", "y", "z"}, []string{"p", "tqyc", "z"}, 2, 2, true},
		{[]string{"fjee", "ftjh"}, []string{"ftjh", "fjee"}, 2, 2, true},
		{[]string{"dfem", "y"}, []string{"dpjp", "arys"}, 2, 2, true},
		// Two lengths, and two inputs with one mix.
		{[]string{"x", "y"}, []string{"dhla"}, 2, 1, true},
		{[]string{"x", "y", "z"}, []string{"drqd", "z"}, 2, 1, true},
		{[]string{"x", "y", "z"}, []string{"fyee"}, 3, 1, true},
		{[]string{"x", "y"}, []string{"x", "hldm", "y"}, 1, 2, true},
		{[]string{"x", "y"}, []string{"x", "hldm", "hvip", "y"}, 1, 3, true},
		// One list is the beginning of the other.
		{[]string{"x"}, []string{"x", "hldm"}, 1, 2, true},
		{[]string{"x", "hldm"}, []string{"x", "hldm", "hldm"}, 1, 2, true},
		{[]string{"fjee"}, []string{"fjee", "ftjh"}, 1, 2, true},
		{[]string{"fjee"}, []string{"fjee", "fjee"}, 0, 1, true},
		// One list is the end of the other: the first head comes again.
		{nil, []string{"fjee"}, 0, 1, true},
		{nil, []string{"fjee", "ftjh"}, 0, 2, true},
		{nil, []string{"x", "cjmt"}, 0, 2, true},
		{[]string{"x"}, []string{"fjee", "x"}, 0, 1, true},
		{[]string{"ftjh"}, []string{"fjee", "ftjh"}, 0, 1, true},
		{[]string{"x", "y"}, []string{"x", "ctrw", "x", "y"}, 0, 2, true},
		{[]string{"x", "y", "z"}, []string{"fjee", "x", "cjmt", "x", "y", "z"}, 0, 3, true},
	} {
		leftA, leftB, ok := checkClash(t, c.a, c.b)
		if leftA != c.leftA || leftB != c.leftB || ok != c.ok {
			t.Errorf("case %d: ChainClash(%q, %q) is %d %d %v", i, c.a, c.b, leftA, leftB, ok)
		}
	}
}

// replaced is a copy of a list with other texts in the place of one or more.
func replaced(list []string, from, to int, texts ...string) []string {
	return slices.Concat(list[:from], texts, list[to:])
}

// expectClash holds what is told of two lists against what it should be.
func expectClash(t *testing.T, why string, a, b []string, wantA, wantB int) {
	t.Helper()
	leftA, leftB, ok := checkClash(t, a, b)
	if leftA != wantA || leftB != wantB || !ok {
		t.Errorf("P20: %s: %d %d %v, not %d %d", why, leftA, leftB, ok, wantA, wantB)
	}
}

// P20, at each place of lists of several lengths, in which one text or more are others.
func TestListsWithOneHeadThatAreUnlike(t *testing.T) {
	for _, count := range []int{1, 2, 3, 5, 8, 14, 21} {
		list := textsFrom(count)
		heads := headsTruth(list)
		for place := range list {
			from, to := heads[place], heads[place+1]
			other := textBetween(t, from, to, "\x00")
			expectClash(t, "one text is another one", list, replaced(list, place, place+1, other), place+1, place+1)

			ahead := textBetween(t, from, 4711, "\xff")
			behind := textBetween(t, 4711, to, "")
			expectClash(t, "two texts for one", list, replaced(list, place, place+1, ahead, behind), place+1, place+2)

			if place > 0 {
				ahead = textBetween(t, heads[place-1], 4711, "")
				expectClash(t, "two texts are others", list, replaced(list, place-1, place+1, ahead, behind), place+1, place+1)
				one := textBetween(t, heads[place-1], to, "one")
				expectClash(t, "one text for two", list, replaced(list, place-1, place+1, one), place+1, place)
			}
			back := textBetween(t, to, to, "back")
			expectClash(t, "one text more, behind which its head comes again", list, replaced(list, place+1, place+1, back), place+1, place+2)
			expectClash(t, "two texts for all up to a place", list, replaced(list, 0, place+1, textBetween(t, firstHead, 5, ""), textBetween(t, 5, to, "")), place+1, 2)
			home := textBetween(t, heads[place], firstHead, "home")
			expectClash(t, "the list twice, but for the way back", list, slices.Concat(list[:place], []string{home}, list), 0, place+1)
		}
		expectClash(t, "one text for all", list, []string{textBetween(t, firstHead, heads[count], "all")}, count, 1)
		expectClash(t, "one text more ahead", list, append([]string{"fjee"}, list...), 0, 1)
		expectClash(t, "three texts more ahead", list, append([]string{"fjee", "ftjh", "fjee"}, list...), 0, 3)
		if left, right, ok := checkClash(t, list, slices.Clone(list)); left != 0 || right != 0 || ok {
			t.Errorf("the same list: %d %d %v", left, right, ok)
		}
	}
}

// refuseClash holds that nothing is told of two lists, although both have one number as their head.
func refuseClash(t *testing.T, why string, a, b []string) {
	t.Helper()
	if leftA, leftB, ok := checkClash(t, a, b); leftA != 0 || leftB != 0 || ok {
		t.Errorf("%s: of %d and %d texts is told %d %d %v", why, len(a), len(b), leftA, leftB, ok)
	}
}

// P20, of lists of as many texts as there may be, and of more.
func TestClashesAtTheBound(t *testing.T) {
	full := textsFrom(mostTexts)
	heads := headsTruth(full)
	last := heads[mostTexts]
	for _, place := range []int{0, 1, 200, mostTexts - 2, mostTexts - 1} {
		from, to := heads[place], heads[place+1]
		expectClash(t, "one text of a full list is another one", full, replaced(full, place, place+1, textBetween(t, from, to, "")), place+1, place+1)
		more := replaced(full, place, place+1, textBetween(t, from, 5, ""), textBetween(t, 5, to, ""))
		refuseClash(t, "two texts for one of a full list", full, more)
		refuseClash(t, "two lists that are too long", more, more)
	}
	expectClash(t, "a full list and one text", full, []string{textBetween(t, firstHead, last, "")}, mostTexts, 1)
	expectClash(t, "a full list and two texts", full, []string{"x", textBetween(t, headsTruth([]string{"x"})[1], last, "")}, mostTexts, 2)
	refuseClash(t, "a full list and itself", full, full)
	refuseClash(t, "a full list and its beginning", full, full[:mostTexts-1])

	loops := slices.Repeat([]string{"fjee"}, mostTexts+2)
	expectClash(t, "a full list whose head is the first", loops[:mostTexts], nil, mostTexts, 0)
	expectClash(t, "a full list and one text less", loops[:mostTexts], loops[:mostTexts-1], 1, 0)
	refuseClash(t, "one text more than there may be, and none", loops[:mostTexts+1], nil)
	refuseClash(t, "one text more than there may be, and a full list", loops[:mostTexts+1], loops[:mostTexts])
	refuseClash(t, "one text more than there may be, twice", loops[:mostTexts+1], loops[:mostTexts+1])
	refuseClash(t, "one text more than there may be, and two", loops[:mostTexts+1], loops)
	refuseClash(t, "too many texts, and none", textsFrom(mostTexts+1), nil)
	refuseClash(t, "too many texts, and one", textsFrom(mostTexts+1), []string{"fjee"})
	refuseClash(t, "too many texts, and their beginning", textsFrom(mostTexts+1), full)
	refuseClash(t, "too many texts, and others", textsFrom(mostTexts+1), make([]string, mostTexts+1))
	refuseClash(t, "far too many texts", textsFrom(5000), textsFrom(5000))
}

// waysBetween is texts that lead from each of some heads to each of them, several for each.
func waysBetween(t *testing.T, heads []int) map[[2]int][]string {
	t.Helper()
	ways := map[[2]int][]string{}
	for _, from := range heads {
		for _, to := range heads {
			for _, front := range []string{"", "\x00", "a"} {
				ways[[2]int{from, to}] = append(ways[[2]int{from, to}], textBetween(t, from, to, front))
			}
		}
	}
	return ways
}

// P20, of drawn lists, of which many have one head.
func TestClashesOfDrawnLists(t *testing.T) {
	r := rand.New(rand.NewSource(20))
	heads := []int{firstHead, 0, lastHead}
	ways := waysBetween(t, heads)
	draw := func() []string {
		var list []string
		head := firstHead
		for range r.Intn(7) {
			to := heads[r.Intn(len(heads))]
			list = append(list, ways[[2]int{head, to}][r.Intn(3)])
			head = to
		}
		return list
	}
	counts := map[string]int{}
	for range 20000 {
		a, b := draw(), draw()
		if r.Intn(2) == 0 {
			// Both end alike, from one head on or from two.
			end := draw()
			a, b = append(a, end...), append(b, end...)
		}
		leftA, leftB, ok := checkClash(t, a, b)
		switch {
		case !ok && slices.Equal(a, b):
			counts["same"]++
		case !ok:
			counts["two heads"]++
		case leftA == 0 || leftB == 0:
			counts["the first head again"]++
		case headsTruth(a)[leftA-1] == headsTruth(b)[leftB-1]:
			counts["behind one head"]++
		default:
			counts["behind two heads"]++
		}
	}
	for _, what := range []string{"same", "two heads", "the first head again", "behind one head", "behind two heads"} {
		if counts[what] < 300 {
			t.Error("what was drawn is too plain:", counts)
		}
	}
}
