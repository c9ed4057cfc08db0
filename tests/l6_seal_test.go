package tests

import (
	"fmt"
	"math"
	"math/big"
	"math/rand"
	"regexp"
	"slices"
	"strconv"
	"strings"
	"testing"

	"loop.example/scot/impl"
)

const (
	lastTime = 1000000
	lastMark = 1000000006
)

func TestSealBounds(t *testing.T) {
	if impl.SealMaxTime != lastTime || impl.SealMod != lastMark+1 {
		t.Error(impl.SealMaxTime, impl.SealMod)
	}
	codes := []int{impl.SealGood, impl.SealFalse, impl.SealLate, impl.SealOld, impl.SealForm}
	for i, code := range codes {
		if code != i {
			t.Errorf("code %d is %d", i, code)
		}
	}
}

func token(role, until, epoch, mac int) impl.SealToken {
	return impl.SealToken{Role: role, Until: until, Epoch: epoch, Mac: mac}
}

// sealKeys is keys, those in bounds ascending, then those that are taken for the first and the last of them.
func sealKeys() []int {
	return []int{0, 1, 2, 77, 1315423, 1 << 29, lastMark - 1, lastMark, -1, -2, -77, -lastMark, math.MinInt + 1, math.MinInt, lastMark + 1, lastMark + 2, 2*lastMark + 2, 1 << 32, 1 << 62, math.MaxInt - 1, math.MaxInt}
}

// sealTimes is times and epochs that a token may have.
func sealTimes() []int {
	return []int{0, 1, 2, 9, 10, 99, 100, 4711, 99999, 100000, lastTime - 1, lastTime}
}

// wrongTimes is times and epochs that none may have.
func wrongTimes() []int {
	return []int{-1, -2, -100, -lastTime, math.MinInt, math.MinInt + 1, lastTime + 1, lastTime + 2, 10 * lastTime, 1 << 32, 1<<32 + 1, 1<<32 + 100, math.MaxInt - 1, math.MaxInt}
}

func wrongMarks() []int {
	return []int{-1, -2, -lastMark, math.MinInt, math.MinInt + 1, lastMark + 1, lastMark + 2, 2 * lastMark, 1 << 32, 1<<32 + 1, math.MaxInt - 1, math.MaxInt}
}

func wrongTenants() []int {
	return []int{-1, -2, -9, -10, math.MinInt, math.MinInt + 1, 10, 11, 99, 256, 265, 1 << 32, 1<<32 + 1, 1<<32 + 9, math.MaxInt - 1, math.MaxInt}
}

// manyTokens is tokens that have the form of one, with each number at its edges.
func manyTokens() []impl.SealToken {
	var all []impl.SealToken
	for _, role := range seeRoles() {
		for _, until := range sealTimes() {
			for _, epoch := range sealTimes() {
				for _, mac := range []int{0, 1, 9, 10, 795086792, 999999999, 1000000000, lastMark - 1, lastMark} {
					all = append(all, token(role, until, epoch, mac))
				}
			}
		}
	}
	return all
}

// formlessTokens is tokens that have not the form of one, each by one number alone, and some by all.
func formlessTokens() []impl.SealToken {
	all := []impl.SealToken{{}, token(-1, -1, -1, -1), token(4, lastTime+1, lastTime+1, lastMark+1), token(math.MinInt, math.MinInt, math.MinInt, math.MinInt), token(math.MaxInt, math.MaxInt, math.MaxInt, math.MaxInt)}
	for _, role := range noRoles() {
		all = append(all, token(role, 100, 3, 5), token(role, 0, 0, 0), token(role, lastTime, lastTime, lastMark))
	}
	for _, n := range wrongTimes() {
		all = append(all, token(1, n, 3, 5), token(3, n, lastTime, 0), token(1, 100, n, 5), token(2, 0, n, lastMark))
	}
	for _, n := range wrongMarks() {
		all = append(all, token(1, 100, 3, n), token(2, lastTime, 0, n))
	}
	return all
}

// markTruth is SealMac as the document says it, by numbers of any size and as one sum: each byte counts as often as there are bytes behind it.
func markTruth(key int, text string) int {
	factor, mod := wide(1315423), wide(1000000007)
	sum, weight := new(big.Int), wide(1)
	for i := len(text) - 1; i >= 0; i-- {
		sum.Add(sum, new(big.Int).Mul(weight, wide(int(text[i])+7)))
		weight.Mod(weight.Mul(weight, factor), mod)
	}
	sum.Add(sum, weight.Mul(weight, wide(min(max(0, key), 1000000006))))
	return int(sum.Mod(sum, mod).Int64())
}

func formTruth(t impl.SealToken) bool {
	return t.Role >= 1 && t.Role <= 3 && t.Until >= 0 && t.Until <= 1000000 && t.Epoch >= 0 && t.Epoch <= 1000000 && t.Mac >= 0 && t.Mac <= 1000000006
}

func tokenMarkTruth(key, tenant int, t impl.SealToken) int {
	return markTruth(key, fmt.Sprintf("%d.%d.%d.%d", tenant, t.Role, t.Until, t.Epoch))
}

func makeTruth(key, tenant, role, until, epoch int) impl.SealToken {
	made := token(role, until, epoch, 0)
	if tenant < 0 || tenant > 9 || !formTruth(made) {
		return impl.SealToken{}
	}
	made.Mac = tokenMarkTruth(key, tenant, made)
	return made
}

func checkTruth(key, tenant int, t impl.SealToken, now, epoch int) int {
	switch {
	case tenant < 0 || tenant > 9 || !formTruth(t):
		return 4
	case t.Mac != tokenMarkTruth(key, tenant, t):
		return 1
	case t.Epoch != epoch:
		return 3
	case t.Until < now:
		return 2
	}
	return 0
}

var tokenForm = regexp.MustCompile(`\A([123])\.(0|[1-9][0-9]{0,6})\.(0|[1-9][0-9]{0,6})\.(0|[1-9][0-9]{0,9})\z`)

// sealReadTruth is SealRead as the document says it, by the form of a text.
func sealReadTruth(text string) (impl.SealToken, bool) {
	var n [4]int
	for i, word := range tokenForm.FindStringSubmatch(text) {
		if i > 0 {
			n[i-1], _ = strconv.Atoi(word)
		}
	}
	read := token(n[0], n[1], n[2], n[3])
	if !formTruth(read) {
		return impl.SealToken{}, false
	}
	return read, true
}

func checkMark(t *testing.T, key int, text string) int {
	t.Helper()
	got := impl.SealMac(key, text)
	if got != markTruth(key, text) {
		t.Fatalf("SealMac(%d, %.60q) is %d, not %d", key, text, got, markTruth(key, text))
	}
	return got
}

func checkMade(t *testing.T, key, tenant, role, until, epoch int) impl.SealToken {
	t.Helper()
	got, want := impl.SealMake(key, tenant, role, until, epoch), makeTruth(key, tenant, role, until, epoch)
	if got != want {
		t.Fatalf("SealMake(%d, %d, %d, %d, %d) is %v, not %v", key, tenant, role, until, epoch, got, want)
	}
	return got
}

func checkFound(t *testing.T, key, tenant int, shown impl.SealToken, now, epoch int) int {
	t.Helper()
	got, want := impl.SealCheck(key, tenant, shown, now, epoch), checkTruth(key, tenant, shown, now, epoch)
	if got != want {
		t.Fatalf("SealCheck(%d, %d, %v, %d, %d) is %d, not %d", key, tenant, shown, now, epoch, got, want)
	}
	return got
}

// checkTokenRead holds SealRead against the document and P16, and tells whether the text is read.
func checkTokenRead(t *testing.T, text string) bool {
	t.Helper()
	got, ok := impl.SealRead(text)
	want, wantOk := sealReadTruth(text)
	if got != want || ok != wantOk {
		t.Fatalf("P16: SealRead(%.60q) is %v %v, not %v %v", text, got, ok, want, wantOk)
	}
	if ok && impl.SealText(got) != text {
		t.Fatalf("P16: %q is read, and written as %q", text, impl.SealText(got))
	}
	return ok
}

// checkTokenText holds SealText against the document and P16, and tells its answer.
func checkTokenText(t *testing.T, shown impl.SealToken) string {
	t.Helper()
	want := ""
	if formTruth(shown) {
		want = fmt.Sprintf("%d.%d.%d.%d", shown.Role, shown.Until, shown.Epoch, shown.Mac)
	}
	got := impl.SealText(shown)
	if got != want {
		t.Fatalf("SealText(%v) is %q, not %q", shown, got, want)
	}
	if back, ok := impl.SealRead(got); ok != formTruth(shown) || ok && back != shown || !ok && back != (impl.SealToken{}) {
		t.Fatalf("P16: SealRead of SealText(%v) is %v %v", shown, back, ok)
	}
	return got
}

func TestMarksByHand(t *testing.T) {
	for i, c := range []struct {
		key  int
		text string
		want int
	}{
		{5, "", 5}, {0, "", 0}, {1, "", 1}, {lastMark - 1, "", lastMark - 1}, {lastMark, "", lastMark}, {lastMark + 1, "", lastMark}, {math.MaxInt, "", lastMark}, {-1, "", 0}, {-5, "", 0}, {math.MinInt, "", 0},
		{0, "a", 104}, {1, "a", 1315423 + 104}, {-1, "a", 104}, {math.MinInt, "a", 104}, {lastMark, "a", 998684688}, {lastMark + 1, "a", 998684688}, {math.MaxInt, "a", 998684688},
		{0, "\x00", 7}, {0, " ", 39}, {0, "\x7f", 134}, {0, "\x80", 135}, {0, "\xff", 262}, {0, "\xff\x80", 344640961}, {0, "é", 265715622},
		{0, "ab", 136804097}, {0, "abc", 254428452}, {0, "ba", 105*1315423 + 104},
		{11, "0.1.100.0", 795086792}, {77, "2.1.100.3", 242064710}, {22, "1.2.50.1", 493196629}, {44, "3.3.0.0", 995514871}, {lastMark, "0.1.0.0", 158797911}, {0, "9.3.1000000.1000000", 170529821}, {123456789, "9.3.1000000.1000000", 541544953},
	} {
		if got := checkMark(t, c.key, c.text); got != c.want {
			t.Errorf("case %d: SealMac(%d, %q) is %d, not %d", i, c.key, c.text, got, c.want)
		}
	}
}

// markedTexts is texts to be marked: of each size up to some, with bytes of all kinds.
func markedTexts() []string {
	texts := []string{"", "\x00", "\x00\x00", "\xff", "\xff\xff\xff", "a", "ab", "ba", "0.1.0.0", "9.3.1000000.1000000", "2.1.100.3", "é€\U0001f600", "\xc3", "\xa9\xc3", "line\nline\r\n", "a b  c", strings.Repeat("\xff", 300), strings.Repeat("\x00", 300), strings.Repeat("tariff", 1000)}
	for n := range 40 {
		texts = append(texts, strings.Repeat("z", n), strings.Repeat("\x80", n))
	}
	for b := range 256 {
		texts = append(texts, string([]byte{byte(b)}), string([]byte{'x', byte(b), 'y'}))
	}
	return texts
}

func TestMarksOfManyTexts(t *testing.T) {
	for _, key := range sealKeys() {
		for _, text := range markedTexts() {
			if mark := checkMark(t, key, text); mark < 0 || mark > lastMark {
				t.Fatalf("SealMac(%d, %.60q) is %d, which is no mark", key, text, mark)
			}
		}
	}
}

// A key out of bounds is taken for the nearest one in them; two keys in bounds mark no text alike.
func TestMarksByTheirKeys(t *testing.T) {
	for _, text := range markedTexts() {
		first, last := impl.SealMac(0, text), impl.SealMac(lastMark, text)
		seen := map[int]int{}
		for _, key := range sealKeys() {
			mark := impl.SealMac(key, text)
			switch {
			case key < 0 && mark != first, key > lastMark && mark != last:
				t.Fatalf("SealMac(%d, %.60q) is %d, not as of the nearest key", key, text, mark)
			case key >= 0 && key <= lastMark:
				if other, there := seen[mark]; there {
					t.Fatalf("the keys %d and %d mark %.60q alike", key, other, text)
				}
				seen[mark] = key
			}
		}
	}
}

// checkOneByteOff holds P17 at one place of a text: all bytes that may stand there have marks of their own.
func checkOneByteOff(t *testing.T, key int, text string, place int) {
	t.Helper()
	seen := map[int]byte{}
	other := []byte(text)
	for b := range 256 {
		other[place] = byte(b)
		mark := impl.SealMac(key, string(other))
		if old, there := seen[mark]; there {
			t.Fatalf("P17: %.60q has the mark %d under %d with the byte %d at place %d, and with %d", text, mark, key, b, place, old)
		}
		seen[mark] = byte(b)
	}
	if old, there := seen[impl.SealMac(key, text)]; !there || old != text[place] {
		t.Fatalf("P17: the mark of %.60q under %d is not its own", text, key)
	}
}

// P17, at each place of texts of many kinds, under keys of all kinds.
func TestATextWithAnotherByteHasAnotherMark(t *testing.T) {
	texts := []string{"a", "\x00", "\xff", "ab", "0.1.0.0", "2.1.100.3", "9.3.1000000.1000000", "é€", strings.Repeat("\x00", 9), strings.Repeat("\xff", 9)}
	for _, key := range sealKeys() {
		for _, text := range texts {
			for place := range len(text) {
				checkOneByteOff(t, key, text, place)
			}
		}
	}
	long := strings.Repeat("usage of one period\n", 40)
	for _, place := range []int{0, 1, 399, len(long) - 2, len(long) - 1} {
		checkOneByteOff(t, 77, long, place)
	}
}

// P17, of drawn texts and keys.
func TestDrawnTextsWithAnotherByte(t *testing.T) {
	r := rand.New(rand.NewSource(17))
	for range 20000 {
		text := make([]byte, 1+r.Intn(60))
		r.Read(text)
		key := r.Intn(lastMark + 1)
		before := checkMark(t, key, string(text))
		place, more := r.Intn(len(text)), 1+r.Intn(255)
		text[place] += byte(more)
		if checkMark(t, key, string(text)) == before {
			t.Fatalf("P17: %q has the mark %d under %d, and had it with another byte at place %d", text, before, key, place)
		}
	}
}

func TestTokensByHand(t *testing.T) {
	for i, c := range []struct {
		key, tenant, role, until, epoch int
		want                            impl.SealToken
		text                            string
	}{
		{11, 0, 1, 100, 0, token(1, 100, 0, 795086792), "1.100.0.795086792"},
		{77, 2, 1, 100, 3, token(1, 100, 3, 242064710), "1.100.3.242064710"},
		{22, 1, 2, 50, 1, token(2, 50, 1, 493196629), "2.50.1.493196629"},
		{44, 3, 3, 0, 0, token(3, 0, 0, 995514871), "3.0.0.995514871"},
		{lastMark, 0, 1, 0, 0, token(1, 0, 0, 158797911), "1.0.0.158797911"},
		{math.MaxInt, 0, 1, 0, 0, token(1, 0, 0, 158797911), "1.0.0.158797911"},
		{0, 9, 3, lastTime, lastTime, token(3, lastTime, lastTime, 170529821), "3.1000000.1000000.170529821"},
		{math.MinInt, 9, 3, lastTime, lastTime, token(3, lastTime, lastTime, 170529821), "3.1000000.1000000.170529821"},
		{123456789, 9, 3, lastTime, lastTime, token(3, lastTime, lastTime, 541544953), "3.1000000.1000000.541544953"},
		{5, 4, 2, 7, lastTime, token(2, 7, lastTime, 648801466), "2.7.1000000.648801466"},
		{11, 0, 0, 100, 0, impl.SealToken{}, ""}, {11, 0, 4, 100, 0, impl.SealToken{}, ""}, {11, 0, -1, 100, 0, impl.SealToken{}, ""},
		{11, -1, 1, 100, 0, impl.SealToken{}, ""}, {11, 10, 1, 100, 0, impl.SealToken{}, ""},
		{11, 0, 1, -1, 0, impl.SealToken{}, ""}, {11, 0, 1, lastTime + 1, 0, impl.SealToken{}, ""},
		{11, 0, 1, 100, -1, impl.SealToken{}, ""}, {11, 0, 1, 100, lastTime + 1, impl.SealToken{}, ""},
		{math.MinInt, math.MinInt, math.MinInt, math.MinInt, math.MinInt, impl.SealToken{}, ""},
		{math.MaxInt, math.MaxInt, math.MaxInt, math.MaxInt, math.MaxInt, impl.SealToken{}, ""},
	} {
		got := checkMade(t, c.key, c.tenant, c.role, c.until, c.epoch)
		if text := checkTokenText(t, got); got != c.want || text != c.text {
			t.Errorf("case %d: %v and %q, not %v and %q", i, got, text, c.want, c.text)
		}
	}
}

// What cannot be made is nothing, whatever number of it is wrong, and is found to have no form.
func TestTokensThatCannotBeMade(t *testing.T) {
	check := func(key, tenant, role, until, epoch int) {
		t.Helper()
		made := checkMade(t, key, tenant, role, until, epoch)
		if made != (impl.SealToken{}) {
			t.Fatalf("SealMake(%d, %d, %d, %d, %d) is %v", key, tenant, role, until, epoch, made)
		}
		if code := checkFound(t, key, tenant, made, until, epoch); code != impl.SealForm {
			t.Fatalf("nothing is found to be %d", code)
		}
	}
	for _, key := range []int{math.MinInt, -1, 0, 77, lastMark, lastMark + 1, math.MaxInt} {
		for _, role := range noRoles() {
			check(key, 2, role, 100, 3)
			check(key, 0, role, 0, 0)
		}
		for _, tenant := range wrongTenants() {
			check(key, tenant, 1, 100, 3)
			check(key, tenant, 3, lastTime, lastTime)
			check(key, tenant, 0, -1, -1)
		}
		for _, n := range wrongTimes() {
			check(key, 2, 1, n, 3)
			check(key, 9, 2, n, lastTime)
			check(key, 2, 1, 100, n)
			check(key, 0, 3, lastTime, n)
		}
	}
}

// aroundTime is times below, at and above one.
func aroundTime(n int) []int {
	return []int{math.MinInt, math.MinInt + 1, -lastTime, -1, 0, n - 1, n, n + 1, lastTime, lastTime + 1, 1<<32 + n, math.MaxInt - 1, math.MaxInt}
}

// checkLife holds P15 of what is made: when and in which epochs it is good.
func checkLife(t *testing.T, key, tenant, role, until, epoch int) {
	t.Helper()
	made := checkMade(t, key, tenant, role, until, epoch)
	if made.Role != role || made.Until != until || made.Epoch != epoch || made.Mac < 0 || made.Mac > lastMark {
		t.Fatalf("SealMake(%d, %d, %d, %d, %d) is %v", key, tenant, role, until, epoch, made)
	}
	for _, now := range aroundTime(until) {
		want := impl.SealGood
		if now > until {
			want = impl.SealLate
		}
		if code := checkFound(t, key, tenant, made, now, epoch); code != want {
			t.Fatalf("P15: %v at %d in its epoch is found to be %d, not %d", made, now, code, want)
		}
	}
	for _, other := range aroundTime(epoch) {
		if other == epoch {
			continue
		}
		for _, now := range []int{math.MinInt, 0, until, until + 1, math.MaxInt} {
			if code := checkFound(t, key, tenant, made, now, other); code != impl.SealOld {
				t.Fatalf("P15: %v at %d in the epoch %d is found to be %d", made, now, other, code)
			}
		}
	}
}

// P15, for each tenant and each role, at the edges of times and epochs.
func TestWhatIsMadeIsGoodUpToItsTimeInItsEpoch(t *testing.T) {
	for _, key := range []int{math.MinInt, 0, 77, lastMark, math.MaxInt} {
		for tenant := range 10 {
			for _, role := range seeRoles() {
				for _, until := range sealTimes() {
					for _, epoch := range []int{0, 1, 3, lastTime - 1, lastTime} {
						checkLife(t, key, tenant, role, until, epoch)
					}
				}
			}
		}
	}
}

// P15, of drawn tokens.
func TestWhatIsMadeOfDrawnTokens(t *testing.T) {
	r := rand.New(rand.NewSource(15))
	for range 2000 {
		checkLife(t, r.Intn(lastMark+1), r.Intn(10), 1+r.Intn(3), r.Intn(lastTime+1), r.Intn(lastTime+1))
	}
}

// What is made for one tenant or under one key is false for another tenant and under another key.
func TestWhatIsMadeIsGoodForNobodyElse(t *testing.T) {
	for _, key := range sealKeys() {
		for tenant := range 10 {
			made := checkMade(t, key, tenant, 1+tenant%3, 100, 3)
			for other := range 10 {
				want := impl.SealFalse
				if other == tenant {
					want = impl.SealGood
				}
				if code := checkFound(t, key, other, made, 100, 3); code != want {
					t.Fatalf("what is made for %d is found to be %d for %d", tenant, code, other)
				}
			}
			for _, other := range sealKeys() {
				want := impl.SealFalse
				if min(max(other, 0), lastMark) == min(max(key, 0), lastMark) {
					want = impl.SealGood
				}
				if code := checkFound(t, other, tenant, made, 100, 3); code != want {
					t.Fatalf("what is made under %d is found to be %d under %d", key, code, other)
				}
			}
		}
	}
}

// A token in which one number is another one is false, also where it tells of another role, of more time, or of the epoch that is asked for.
func TestWhatIsTurnedInATokenIsFalse(t *testing.T) {
	for _, role := range seeRoles() {
		made := checkMade(t, 77, 2, role, 100, 3)
		turned := []impl.SealToken{}
		for _, other := range seeRoles() {
			turned = append(turned, token(other, 100, 3, made.Mac))
		}
		for _, n := range sealTimes() {
			turned = append(turned, token(role, n, 3, made.Mac), token(role, 100, n, made.Mac))
		}
		for _, mac := range []int{0, made.Mac - 1, made.Mac + 1, lastMark} {
			turned = append(turned, token(role, 100, 3, mac))
		}
		for _, other := range turned {
			want := impl.SealFalse
			if other == made {
				want = impl.SealGood
			}
			if code := checkFound(t, 77, 2, other, other.Until, other.Epoch); code != want {
				t.Fatalf("%v, made from %v, is found to be %d, not %d", other, made, code, want)
			}
		}
	}
}

// keyFor is the key under which a token has just this mark for a tenant.
func keyFor(tenant, role, until, epoch, mac int) int {
	text := fmt.Sprintf("%d.%d.%d.%d", tenant, role, until, epoch)
	mod := wide(lastMark + 1)
	factor := new(big.Int).Exp(wide(1315423), wide(len(text)), mod)
	key := new(big.Int).Mul(wide(mac-markTruth(0, text)), factor.ModInverse(factor, mod))
	return int(key.Mod(key, mod).Int64())
}

// P15, P16: marks at their bounds are marks as all others are.
func TestTokensWithTheLeastAndTheGreatestMark(t *testing.T) {
	for _, mac := range []int{0, 1, 9, 10, 999999999, 1000000000, lastMark - 1, lastMark} {
		for tenant := range 10 {
			for _, role := range seeRoles() {
				for _, until := range []int{0, 100, lastTime} {
					for _, epoch := range []int{0, 3, lastTime} {
						key := keyFor(tenant, role, until, epoch, mac)
						if made := checkMade(t, key, tenant, role, until, epoch); made != token(role, until, epoch, mac) {
							t.Fatalf("SealMake(%d, %d, %d, %d, %d) is %v, not with %d", key, tenant, role, until, epoch, made, mac)
						}
						checkLife(t, key, tenant, role, until, epoch)
						checkTokenText(t, token(role, until, epoch, mac))
						// A number that is the same but for what is left by SealMod is no mark.
						for _, off := range []int{-2, -1, 1, 2} {
							if code := checkFound(t, key, tenant, token(role, until, epoch, mac+off*(lastMark+1)), until, epoch); code != impl.SealForm {
								t.Fatalf("a mark of %d is found to be %d", mac+off*(lastMark+1), code)
							}
						}
					}
				}
			}
		}
	}
}

// A token with the mark that it should have, whose other numbers are out of bounds, has not the form of one all the same.
func TestTokensOutOfBoundsWithTheirMarks(t *testing.T) {
	check := func(tenant int, shown impl.SealToken) {
		t.Helper()
		shown.Mac = tokenMarkTruth(77, tenant, shown)
		for _, now := range []int{math.MinInt, 0, 100, shown.Until, math.MaxInt} {
			for _, epoch := range []int{0, 3, shown.Epoch} {
				if code := checkFound(t, 77, tenant, shown, now, epoch); code != impl.SealForm {
					t.Fatalf("%v for %d at %d in %d is found to be %d", shown, tenant, now, epoch, code)
				}
			}
		}
	}
	for _, tenant := range wrongTenants() {
		check(tenant, token(1, 100, 3, 0))
	}
	for _, role := range noRoles() {
		check(2, token(role, 100, 3, 0))
	}
	for _, n := range wrongTimes() {
		check(2, token(1, n, 3, 0))
		check(2, token(1, 100, n, 0))
	}
}

// Of several faults at once the one that is looked for first is told, whichever others there are.
func TestTheFirstOfSeveralFaults(t *testing.T) {
	for _, role := range seeRoles() {
		made := checkMade(t, 77, 2, role, 100, 3)
		for faults := range 16 {
			formless, falsified, old, late := faults&8 != 0, faults&4 != 0, faults&2 != 0, faults&1 != 0
			tenant, shown, now, epoch, want := 2, made, 100, 3, impl.SealGood
			if late {
				now, want = 101, impl.SealLate
			}
			if old {
				epoch, want = 4, impl.SealOld
			}
			if falsified {
				shown.Mac, want = (made.Mac+1)%(lastMark+1), impl.SealFalse
			}
			if !formless {
				if code := checkFound(t, 77, tenant, shown, now, epoch); code != want {
					t.Errorf("faults %04b of role %d: %d, not %d", faults, role, code, want)
				}
				continue
			}
			spoilt := []impl.SealToken{shown, shown, shown, shown, shown}
			spoilt[0].Role, spoilt[1].Until, spoilt[2].Epoch, spoilt[3].Mac = 4, -1, lastTime+1, lastMark+1
			for i, shown := range spoilt {
				if i == 4 {
					tenant = 10
				}
				if code := checkFound(t, 77, tenant, shown, now, epoch); code != impl.SealForm {
					t.Errorf("faults %04b of role %d, form %d: %d", faults, role, i, code)
				}
			}
		}
	}
}

// Each token and each tenant of which one is wrong, with all else in each state: form is told ahead of all.
func TestTokensWithoutForm(t *testing.T) {
	for _, shown := range formlessTokens() {
		if text := checkTokenText(t, shown); text != "" {
			t.Fatalf("%v, which has not the form of one, is written as %q", shown, text)
		}
		for _, now := range []int{math.MinInt, 0, 100, math.MaxInt} {
			for _, epoch := range []int{math.MinInt, 0, 3, shown.Epoch, math.MaxInt} {
				for _, key := range []int{-1, 77, math.MaxInt} {
					if code := checkFound(t, key, 2, shown, now, epoch); code != impl.SealForm {
						t.Fatalf("%v is found to be %d", shown, code)
					}
				}
			}
		}
	}
	made := checkMade(t, 77, 2, 1, 100, 3)
	for _, tenant := range wrongTenants() {
		for _, now := range aroundTime(100) {
			for _, epoch := range aroundTime(3) {
				if code := checkFound(t, 77, tenant, made, now, epoch); code != impl.SealForm {
					t.Fatalf("for the tenant %d a token is found to be %d", tenant, code)
				}
			}
		}
	}
}

// P15: what is found of drawn tokens, of which many are nearly right.
func TestDrawnTokensAreFoundAsTheyAre(t *testing.T) {
	r := rand.New(rand.NewSource(6))
	pick := func(numbers ...int) int { return numbers[r.Intn(len(numbers))] }
	codes := map[int]int{}
	for range 100000 {
		key, tenant := pick(sealKeys()...), pick(0, 1, 5, 9)
		until, epoch := pick(sealTimes()...), pick(sealTimes()...)
		shown := makeTruth(key, tenant, 1+r.Intn(3), until, epoch)
		now, asked := until-r.Intn(3), epoch
		for range r.Intn(4) {
			switch r.Intn(9) {
			case 0:
				now = pick(aroundTime(until)...)
			case 1:
				asked = pick(aroundTime(epoch)...)
			case 2:
				tenant = pick(-1, 0, 1, 9, 10)
			case 3:
				key = pick(sealKeys()...)
			case 4:
				shown.Mac = pick(-1, 0, shown.Mac+1, lastMark, lastMark+1)
			case 5:
				shown.Role = r.Intn(5)
			case 6:
				shown.Until = pick(-1, shown.Until+1, lastTime, lastTime+1)
			case 7:
				now, asked = until+1, pick(epoch, epoch+1)
			}
		}
		codes[checkFound(t, key, tenant, shown, now, asked)]++
		checkTokenText(t, shown)
	}
	for code := range 5 {
		if codes[code] < 3000 {
			t.Error("what was drawn is too plain:", codes)
		}
	}
}

// P16: each token that has the form of one is read from its text, and no two have one text.
func TestReadOfTextOfManyTokens(t *testing.T) {
	seen := map[string]impl.SealToken{}
	for _, shown := range manyTokens() {
		text := checkTokenText(t, shown)
		if other, there := seen[text]; there || text == "" {
			t.Fatalf("%v and %v are written as %q", shown, other, text)
		}
		seen[text] = shown
		if !checkTokenRead(t, text) {
			t.Fatalf("%q is not read", text)
		}
	}
	r := rand.New(rand.NewSource(16))
	for range 20000 {
		checkTokenText(t, token(1+r.Intn(3), r.Intn(lastTime+1), r.Intn(lastTime+1), r.Intn(lastMark+1)))
	}
}

func TestTokenTextsByHand(t *testing.T) {
	for i, c := range []struct {
		text string
		want impl.SealToken
	}{
		{"1.0.0.0", token(1, 0, 0, 0)}, {"2.0.0.0", token(2, 0, 0, 0)}, {"3.1.2.4", token(3, 1, 2, 4)},
		{"1.100.0.795086792", token(1, 100, 0, 795086792)},
		{"1.10.100.1000", token(1, 10, 100, 1000)},
		{"3.1000000.1000000.1000000006", token(3, lastTime, lastTime, lastMark)},
		{"2.999999.0.1000000005", token(2, lastTime-1, 0, lastMark-1)},
	} {
		got, ok := impl.SealRead(c.text)
		if !ok || got != c.want || !checkTokenRead(t, c.text) || checkTokenText(t, c.want) != c.text {
			t.Errorf("case %d: %q is read as %v %v", i, c.text, got, ok)
		}
	}
}

// wrongNumbers is words that stand for no number, or for one otherwise than it is written.
func wrongNumbers() []string {
	return []string{"", " ", "+", "-", "+1", "-1", "+0", "-0", "--1", "00", "01", "007", "0000000000000000000001", "1 ", " 1", "\t1", "1\n", "1\r", "1\x00", "1,0", "1_0", "1e0", "1e3", "0x1", "0b1", "0o1", "a", "x1", "1x", "one", "NaN", "Inf", "é", "\u0661", "\uff11", "\u00b9", "\xff", "\x80",
		"9223372036854775807", "9223372036854775808", "-9223372036854775808", "-9223372036854775809", "18446744073709551616", "18446744073709551617", "18446744073709551619", "4294967296", "4294967297", "4294967298", "1000000007", "1000000008", "10000000000", "99999999999999999999999999999999", strings.Repeat("0", 5000), strings.Repeat("1", 5000), strings.Repeat("9", 5000), strings.Repeat("0", 5000) + "1"}
}

// P16: a text in which one number or more is written otherwise, or is out of bounds, is not read.
func TestTokenTextsWithWrongNumbers(t *testing.T) {
	right := []string{"1", "100", "3", "795086792"}
	refuse := func(words []string) {
		t.Helper()
		if text := strings.Join(words, "."); checkTokenRead(t, text) {
			t.Fatalf("P16: %.60q is read", text)
		}
	}
	spoil := func(place int, word string) []string {
		words := slices.Clone(right)
		words[place] = word
		return words
	}
	for _, word := range wrongNumbers() {
		for place := range right {
			refuse(spoil(place, word))
			for second := range place {
				words := spoil(place, word)
				words[second] = word
				refuse(words)
			}
		}
		refuse([]string{word, word, word, word})
	}
	for _, role := range noRoles() {
		refuse(spoil(0, strconv.Itoa(role)))
	}
	for _, n := range wrongTimes() {
		refuse(spoil(1, strconv.Itoa(n)))
		refuse(spoil(2, strconv.Itoa(n)))
	}
	for _, n := range wrongMarks() {
		refuse(spoil(3, strconv.Itoa(n)))
	}
}

// P16: a text with parts that lack or are too many, or with something else between or beside them, is not read.
func TestTextsThatAreNoTokens(t *testing.T) {
	texts := []string{"", ".", "..", "...", "....", "1", "1.", "1.2", "1.2.", "1.2.3", "1.2.3.", ".1.2.3", "1..2.3", "1.2..3", "1.2.3.4.", ".1.2.3.4", "1..2.3.4", "1.2..3.4", "1.2.3..4", "1.2.3.4.5", "1.2.3.4.0", "1.2.3.4.5.6", "0.1.2.3.4", "1.2.3.4 ", " 1.2.3.4", "1.2.3.4\n", "\n1.2.3.4", "1.2.3.4\x00", "\x001.2.3.4", "1. 2.3.4", "1 .2.3.4",
		"1 2 3 4", "1,2,3,4", "1:2:3:4", "1-2-3-4", "1/2/3/4", "1;2;3;4", "1.2.3,4", "1.2 3.4", "1\x002\x003\x004", "1\u20242\u20243\u20244", "1\uff0e2\uff0e3\uff0e4", "(1.2.3.4)", "{1 2 3 4}", "\"1.2.3.4\"", "\ufeff1.2.3.4", "v1.2.3.4", "-1.2.3.4", "+1.2.3.4", "0.0.0.0", "0.1.1.1", "4.1.1.1", "1.2.3.4 1.2.3.4", "1.2.3.41.2.3.4",
		strings.Repeat("1.", 1000), strings.Repeat("1.", 1000) + "1", strings.Repeat(".", 1<<20), strings.Repeat("1", 1<<20), "1.2.3." + strings.Repeat("4", 1<<20), strings.Repeat("0", 1<<20) + "1.2.3.4", "1.2.3.4" + strings.Repeat(" ", 1<<20), strings.Repeat("1.2.3.4", 1<<16)}
	for _, text := range texts {
		if checkTokenRead(t, text) {
			t.Errorf("P16: %.60q is read", text)
		}
	}
}

// P16: of all short texts of some bytes, just the tokens' are read.
func TestReadOfAllShortTokenTexts(t *testing.T) {
	for _, c := range []struct {
		bytes string
		size  int
		want  int
	}{
		// Of 7 bytes: a role and any 3 digits; of 8 bytes: one of the 3 has two digits, the first of them not being 0.
		{".0124", 8, 2*(4*4*4) + 2*3*(3*4)*4*4},
		{".1-+", 8, 1 + 3},
		{".3 0", 8, 2*2*2 + 3*(1*2)*2*2},
	} {
		read := 0
		var grow func(text []byte)
		grow = func(text []byte) {
			if checkTokenRead(t, string(text)) {
				read++
			}
			if len(text) < c.size {
				for i := range len(c.bytes) {
					grow(append(text, c.bytes[i]))
				}
			}
		}
		grow(make([]byte, 0, c.size))
		if read != c.want {
			t.Errorf("of all texts of up to %d of the bytes %q, %d are read, not %d", c.size, c.bytes, read, c.want)
		}
	}
}

// P16: texts that are one byte off from one that is read.
func TestReadOfTokenTextsOneByteOff(t *testing.T) {
	read := 0
	look := func(pieces ...string) {
		if checkTokenRead(t, strings.Join(pieces, "")) {
			read++
		}
	}
	for _, text := range []string{"1.0.0.0", "3.100.3.795086792", "2.1000000.999999.1000000006", "3.1000000.1000000.999999999"} {
		for place := 0; place <= len(text); place++ {
			for b := range 256 {
				other := string([]byte{byte(b)})
				look(text[:place], other, text[place:])
				if place < len(text) {
					look(text[:place], other, text[place+1:])
				}
			}
			look(text[:place])
			look(text[place:])
			if place < len(text) {
				look(text[:place], text[place+1:])
			}
		}
	}
	if read < 100 {
		t.Error("what was read is too little:", read)
	}
}
