package tests

import (
	"fmt"
	"math"
	"math/rand"
	"regexp"
	"slices"
	"strconv"
	"strings"
	"testing"

	"loop.example/scot/impl"
)

const (
	lastNumber = 99999999999999999
	nobody     = -1
	operator   = 4
)

func TestWireBounds(t *testing.T) {
	for i, verb := range wireVerbs() {
		if verb != i+1 {
			t.Errorf("verb %d is %d", i+1, verb)
		}
	}
	if impl.WireNobody != nobody || impl.WireOperator != operator || impl.WireMax != 800 {
		t.Error(impl.WireNobody, impl.WireOperator, impl.WireMax)
	}
}

func wireVerbs() []int {
	return []int{impl.WireDoes, impl.WireSees, impl.WireAdopts, impl.WireRekeys}
}

// noVerbs is numbers of which none is a verb.
func noVerbs() []int {
	return []int{0, -1, -2, -3, -4, 5, 6, 257, 258, 260, 1 << 32, 1<<32 + 1, 1<<32 + 4, -1 << 32, math.MaxInt, math.MaxInt - 1, math.MinInt, math.MinInt + 1, math.MinInt + 4}
}

// noKinds is numbers of which none is a kind of call.
func noKinds() []int {
	return []int{0, -1, -2, -7, 8, 9, 257, 263, 1 << 32, 1<<32 + 1, 1<<32 + 7, -1 << 32, math.MaxInt, math.MinInt, math.MinInt + 1, math.MinInt + 7}
}

// wireTokens is tokens that have the form of one, the last of them with the longest text.
func wireTokens() []impl.SealToken {
	return []impl.SealToken{token(1, 0, 0, 0), token(2, 50, 1, 7), token(3, 100, 0, 795086792), token(2, lastTime, lastTime, lastMark)}
}

func does(tenant int, shown impl.SealToken, call impl.BillOp) impl.WireReq {
	return impl.WireReq{Tenant: tenant, Token: shown, Verb: impl.WireDoes, Op: call}
}

func sees(tenant int, shown impl.SealToken, what, n int) impl.WireReq {
	return impl.WireReq{Tenant: tenant, Token: shown, Verb: impl.WireSees, What: what, N: n}
}

func adopts(tenant int, shown impl.SealToken, name string) impl.WireReq {
	return impl.WireReq{Tenant: tenant, Token: shown, Verb: impl.WireAdopts, Name: name}
}

func rekeys(tenant int, shown impl.SealToken) impl.WireReq {
	return impl.WireReq{Tenant: tenant, Token: shown, Verb: impl.WireRekeys}
}

func posting(key int, line impl.BillLine) impl.WirePost { return impl.WirePost{Key: key, Line: line} }

// plainCalls is calls of each kind, several of each, that are written.
func plainCalls() []impl.BillOp {
	return append(callsOfEachKind(),
		op(impl.BillSets, "base", "(steps calls 100:0 1000:2 0:1)", 1900), op(impl.BillSets, "!", "~  ~ ", -5), op(impl.BillSets, "drop", "set 5 x", 0),
		op(impl.BillDrops, "x", "", 0), op(impl.BillDrops, "drop", "", 0), op(impl.BillDrops, "-0", "", 0),
		op(impl.BillUses, "e1", "calls", 1250), op(impl.BillUses, "007", "+1", -1), op(impl.BillUses, "use", "use", 0),
		op(impl.BillFixes, "e1", "", 0), op(impl.BillFixes, "fix", "", -40),
		op(impl.BillCredits, "12", "", 999), op(impl.BillCredits, "close", "", 0),
		op(impl.BillPays, "", "", 0), op(impl.BillPays, "", "", -1000), op(impl.BillPays, "", "", lastNumber))
}

// plainReqs is requests of each verb, and of each kind of call, that are written.
func plainReqs() []impl.WireReq {
	var all []impl.WireReq
	for i, call := range plainCalls() {
		all = append(all, does(i%4, wireTokens()[i%3], call))
	}
	for tenant := range 4 {
		for _, shown := range wireTokens() {
			all = append(all, does(tenant, shown, op(impl.BillCloses, "", "", 0)), sees(tenant, shown, 1, 3), sees(tenant, shown, 0, 0), sees(tenant, shown, -lastNumber, lastNumber), adopts(tenant, shown, "base"), adopts(tenant, shown, "rekey"), rekeys(tenant, shown))
		}
	}
	return all
}

// edgeWords is words that are just such: of 1 and of 20 bytes, with the bytes at the bounds and with all between.
func edgeWords() []string {
	words := []string{"!", "~", "0", "-", "*", "a", strings.Repeat("!", 20), strings.Repeat("~", 20), "abcdefghijklmnopqrst", "!~!~", "-1", "01", "-0", "1.2.3.4", "set", "close", "rekey", "see", "\"\\\"", "%d%s", strings.Repeat("x", 19)}
	for b := 33; b <= 126; b++ {
		words = append(words, string(rune(b)), "x"+string(rune(b))+"y")
	}
	return words
}

// noWords is texts that are no words: of none and of 21 bytes and more, with bytes beside the bounds at each place.
func noWords() []string {
	words := []string{"", strings.Repeat("!", 21), strings.Repeat("~", 21), "abcdefghijklmnopqrstu", strings.Repeat("x", 256+20), strings.Repeat("x", 800), strings.Repeat("x", 1<<16), "é", "a b", "  ", "5 5", "x 5", "5 x"}
	for b := range 256 {
		if b < 33 || b > 126 {
			other := string([]byte{byte(b)})
			words = append(words, other, other+"x", "x"+other, "x"+other+"x", strings.Repeat("x", 19)+other, strings.Repeat("x", 20)+other)
		}
	}
	return words
}

// edgeRules is rules that are just such: of 1 and of RuleMaxText bytes, with spaces within and at the end, with the bytes at the bounds and with all between.
func edgeRules() []string {
	rules := []string{"!", "~", "0", "x", strings.Repeat("~", 600), strings.Repeat("!", 599), "x" + strings.Repeat(" ", 599), "x" + strings.Repeat(" ", 598) + "x", "a b", "a  b", "a   b  c", "a ", "a  ", "(add a b)", "5 5 5", "set a 5 x", strings.Repeat("ab  ", 150), strings.Repeat("x", 21), "- 1"}
	for b := 32; b <= 126; b++ {
		rules = append(rules, "x"+string(rune(b)), "x"+string(rune(b))+"y")
	}
	return rules
}

// noRules is texts that are no rules: of none and of more bytes than RuleMaxText, with a space ahead, with bytes beside the bounds at each place.
func noRules() []string {
	rules := []string{"", strings.Repeat("~", 601), "x" + strings.Repeat(" ", 600), strings.Repeat("x", 256*3), strings.Repeat("x", 1<<16), " ", "  ", " x", "  x", " (add a b)", " " + strings.Repeat("x", 599), "é", "a\u00a0b"}
	for b := range 256 {
		if b < 32 || b > 126 {
			other := string([]byte{byte(b)})
			rules = append(rules, other, other+"x", "x"+other, "x"+other+"x", strings.Repeat("x", 599)+other)
		}
	}
	return rules
}

// edgeNumbers is numbers that are written: those next to the bounds among them.
func edgeNumbers() []int {
	return []int{0, 1, -1, 9, 10, -10, 1900, 1 << 31, 1 << 32, -1 << 32, 1000000000000000, 9999999999999999, 10000000000000000, -10000000000000000, lastNumber - 1, lastNumber, -lastNumber + 1, -lastNumber}
}

// noNumbers is numbers that are not: the bounds themselves, and those beyond.
func noNumbers() []int {
	return []int{lastNumber + 1, -lastNumber - 1, lastNumber + 2, -lastNumber - 2, 10 * lastNumber, -10 * lastNumber, 1 << 62, -1 << 62, math.MaxInt, math.MaxInt - 1, math.MinInt, math.MinInt + 1}
}

var (
	wireNumberForm = `(0|-?[1-9][0-9]{0,16})`
	wireWordForm   = `([!-~]{1,20})`
	wireRuleForm   = `([!-~][ -~]*)`
	callForms      = []struct {
		kind  int
		form  *regexp.Regexp
		parts string
	}{
		{1, regexp.MustCompile(`\Aset ` + wireWordForm + ` ` + wireNumberForm + ` ` + wireRuleForm + `\z`), "ANB"},
		{2, regexp.MustCompile(`\Adrop ` + wireWordForm + `\z`), "A"},
		{3, regexp.MustCompile(`\Ause ` + wireWordForm + ` ` + wireWordForm + ` ` + wireNumberForm + `\z`), "ABN"},
		{4, regexp.MustCompile(`\Afix ` + wireWordForm + ` ` + wireNumberForm + `\z`), "AN"},
		{5, regexp.MustCompile(`\Aclose\z`), ""},
		{6, regexp.MustCompile(`\Acredit ` + wireWordForm + ` ` + wireNumberForm + `\z`), "AN"},
		{7, regexp.MustCompile(`\Apay ` + wireNumberForm + `\z`), "N"},
	}
	reqForm    = regexp.MustCompile(`(?s)\A([0-3]) ([0-9.]+) (.*)\z`)
	seeForm    = regexp.MustCompile(`\Asee ` + wireNumberForm + ` ` + wireNumberForm + `\z`)
	adoptForm  = regexp.MustCompile(`\Aadopt ` + wireWordForm + `\z`)
	postedForm = regexp.MustCompile(`(?s)\A\* (0|[1-9][0-9]{0,16}) post ([a-z]+) (0|[1-9][0-9]{0,16}) (.*)\z`)
)

func wordTruth(word string) bool {
	return len(word) >= 1 && len(word) <= 20 && strings.IndexFunc(word, func(r rune) bool { return r < 33 || r > 126 }) < 0
}

func wireRuleTruth(rule string) bool {
	return len(rule) >= 1 && len(rule) <= 600 && rule[0] != ' ' && strings.IndexFunc(rule, func(r rune) bool { return r < 32 || r > 126 }) < 0
}

func wireNumberTruth(n int) bool { return n > -100000000000000000 && n < 100000000000000000 }

// opTextTruth is WireOp as the document says it, part by part.
func opTextTruth(call impl.BillOp) string {
	text, ok := "", true
	switch a, b, n := call.A, call.B, strconv.Itoa(call.N); call.Kind {
	case 1:
		text, ok = "set "+a+" "+n+" "+b, wordTruth(a) && wireRuleTruth(b) && wireNumberTruth(call.N)
	case 2:
		text, ok = "drop "+a, wordTruth(a) && b == "" && call.N == 0
	case 3:
		text, ok = "use "+a+" "+b+" "+n, wordTruth(a) && wordTruth(b) && wireNumberTruth(call.N)
	case 4:
		text, ok = "fix "+a+" "+n, wordTruth(a) && b == "" && wireNumberTruth(call.N)
	case 5:
		text, ok = "close", a == "" && b == "" && call.N == 0
	case 6:
		text, ok = "credit "+a+" "+n, wordTruth(a) && b == "" && wireNumberTruth(call.N)
	case 7:
		text, ok = "pay "+n, a == "" && b == "" && wireNumberTruth(call.N)
	}
	if !ok {
		return ""
	}
	return text
}

// reqTextTruth is WireText as the document says it, part by part.
func reqTextTruth(q impl.WireReq) string {
	text, ok := "", false
	switch q.Verb {
	case 1:
		text = opTextTruth(q.Op)
		ok = text != "" && q.What == 0 && q.N == 0 && q.Name == ""
	case 2:
		text = fmt.Sprintf("see %d %d", q.What, q.N)
		ok = wireNumberTruth(q.What) && wireNumberTruth(q.N) && q.Name == "" && q.Op == impl.BillOp{}
	case 3:
		text = "adopt " + q.Name
		ok = wordTruth(q.Name) && q.What == 0 && q.N == 0 && q.Op == impl.BillOp{}
	case 4:
		text = "rekey"
		ok = q.What == 0 && q.N == 0 && q.Name == "" && q.Op == impl.BillOp{}
	}
	if !ok || q.Tenant < 0 || q.Tenant > 3 || !formTruth(q.Token) {
		return ""
	}
	return fmt.Sprintf("%d %d.%d.%d.%d %s", q.Tenant, q.Token.Role, q.Token.Until, q.Token.Epoch, q.Token.Mac, text)
}

// readOpTruth is WireReadOp as the document says it, by the forms of texts.
func readOpTruth(text string) (impl.BillOp, bool) {
	for _, c := range callForms {
		found := c.form.FindStringSubmatch(text)
		if found == nil {
			continue
		}
		call := impl.BillOp{Kind: c.kind}
		for i, part := range c.parts {
			switch part {
			case 'A':
				call.A = found[i+1]
			case 'B':
				call.B = found[i+1]
			case 'N':
				call.N, _ = strconv.Atoi(found[i+1])
			}
		}
		return call, len(call.B) <= 600
	}
	return impl.BillOp{}, false
}

// readReqTruth is WireRead as the document says it, by the forms of texts.
func readReqTruth(text string) (impl.WireReq, bool) {
	found := reqForm.FindStringSubmatch(text)
	if found == nil {
		return impl.WireReq{}, false
	}
	shown, ok := sealReadTruth(found[2])
	q := impl.WireReq{Tenant: int(text[0] - '0'), Token: shown}
	if see := seeForm.FindStringSubmatch(found[3]); see != nil {
		q.Verb = 2
		q.What, _ = strconv.Atoi(see[1])
		q.N, _ = strconv.Atoi(see[2])
		return q, ok
	}
	if adopt := adoptForm.FindStringSubmatch(found[3]); adopt != nil {
		q.Verb, q.Name = 3, adopt[1]
		return q, ok
	}
	if found[3] == "rekey" {
		q.Verb = 4
		return q, ok
	}
	call, done := readOpTruth(found[3])
	q.Verb, q.Op = 1, call
	return q, ok && done
}

// postedTruth is WirePosted as the document says it, by the form of a text.
func postedTruth(text string) (impl.WirePost, bool) {
	found := postedForm.FindStringSubmatch(text)
	if found == nil {
		return impl.WirePost{}, false
	}
	key, _ := strconv.Atoi(found[1])
	tax, _ := strconv.Atoi(found[3])
	return posting(key, line(found[2], found[4], tax)), lineTruth(line(found[2], found[4], tax))
}

func ofTruth(text string) int {
	for i, first := range []string{"0 ", "1 ", "2 ", "3 ", "* "} {
		if strings.HasPrefix(text, first) {
			return i
		}
	}
	return nobody
}

func mayTruth(role int, q impl.WireReq) bool {
	return role == 1 || (role == 2 || role == 3) && q.Verb == 2 || role == 2 && q.Verb == 1 && (q.Op.Kind == 3 || q.Op.Kind == 4)
}

// checkOpRead holds WireReadOp against the document and P18, and tells whether the text is read.
func checkOpRead(t *testing.T, text string) bool {
	t.Helper()
	got, ok := impl.WireReadOp(text)
	want, wantOk := readOpTruth(text)
	if !wantOk {
		want = impl.BillOp{}
	}
	if got != want || ok != wantOk {
		t.Fatalf("P18: WireReadOp(%.900q) is %v %v, not %v %v", text, got, ok, want, wantOk)
	}
	if ok && impl.WireOp(got) != text {
		t.Fatalf("P18: %q is read, and written as %q", text, impl.WireOp(got))
	}
	return ok
}

// checkReqRead holds WireRead against the document and P18, and tells whether the text is read.
func checkReqRead(t *testing.T, text string) bool {
	t.Helper()
	got, ok := impl.WireRead(text)
	want, wantOk := readReqTruth(text)
	if !wantOk {
		want = impl.WireReq{}
	}
	if got != want || ok != wantOk {
		t.Fatalf("P18: WireRead(%.900q) is %v %v, not %v %v", text, got, ok, want, wantOk)
	}
	if ok && (impl.WireText(got) != text || impl.WireOf(text) != got.Tenant) {
		t.Fatalf("P18: %q is read, written as %q, and is of %d", text, impl.WireText(got), impl.WireOf(text))
	}
	return ok
}

// checkPosted holds WirePosted against the document, and tells whether the text is read.
func checkPosted(t *testing.T, text string) bool {
	t.Helper()
	got, ok := impl.WirePosted(text)
	want, wantOk := postedTruth(text)
	if !wantOk {
		want = impl.WirePost{}
	}
	if got != want || ok != wantOk {
		t.Fatalf("WirePosted(%.900q) is %v %v, not %v %v", text, got, ok, want, wantOk)
	}
	if whole := fmt.Sprintf("* %d post %s %d %s", got.Key, got.Line.Name, got.Line.Tax, got.Line.Rule); ok && (whole != text || impl.WireOf(text) != operator) {
		t.Fatalf("%q is read as %v, and is of %d", text, got, impl.WireOf(text))
	}
	return ok
}

// checkOp holds WireOp against the document and P18, and tells its answer.
func checkOp(t *testing.T, call impl.BillOp) string {
	t.Helper()
	got, want := impl.WireOp(call), opTextTruth(call)
	if got != want {
		t.Fatalf("WireOp(%.900q) is %.900q, not %.900q", fmt.Sprint(call), got, want)
	}
	back, ok := impl.WireReadOp(got)
	if ok != (want != "") || ok && back != call || !ok && back != (impl.BillOp{}) {
		t.Fatalf("P18: WireReadOp of WireOp(%v) is %v %v", call, back, ok)
	}
	return got
}

// checkReq holds WireText against the document and P18, and tells its answer.
func checkReq(t *testing.T, q impl.WireReq) string {
	t.Helper()
	got, want := impl.WireText(q), reqTextTruth(q)
	if got != want {
		t.Fatalf("WireText(%.900q) is %.900q, not %.900q", fmt.Sprint(q), got, want)
	}
	back, ok := impl.WireRead(got)
	if ok != (want != "") || ok && back != q || !ok && back != (impl.WireReq{}) {
		t.Fatalf("P18: WireRead of WireText(%v) is %v %v", q, back, ok)
	}
	return got
}

// checkText holds all readers against the document at one text, and tells how many of them read it.
func checkText(t *testing.T, text string) int {
	t.Helper()
	if got := impl.WireOf(text); got != ofTruth(text) {
		t.Fatalf("WireOf(%.60q) is %d, not %d", text, got, ofTruth(text))
	}
	read := 0
	for _, ok := range []bool{checkOpRead(t, text), checkReqRead(t, text), checkPosted(t, text)} {
		if ok {
			read++
		}
	}
	return read
}

// checkNoText says that no reader reads a text.
func checkNoText(t *testing.T, text string) {
	t.Helper()
	if checkText(t, text) != 0 {
		t.Fatalf("P18: %.900q is read", text)
	}
}

// checkSpoilt says of a call that it isn't written, neither alone nor in a request, and that its parts, written all the same, are not read.
func checkSpoilt(t *testing.T, call impl.BillOp, text string) {
	t.Helper()
	if got := checkOp(t, call); got != "" {
		t.Fatalf("%.60q is written as %.60q", fmt.Sprint(call), got)
	}
	if got := checkReq(t, does(0, wireTokens()[0], call)); got != "" {
		t.Fatalf("a request of %.60q is written as %.60q", fmt.Sprint(call), got)
	}
	if checkOpRead(t, text) || checkReqRead(t, "0 1.0.0.0 "+text) {
		t.Fatalf("P18: %.900q is read", text)
	}
}

// checkWritten says of a call that it is written so, alone and in a request.
func checkWritten(t *testing.T, call impl.BillOp, text string) {
	t.Helper()
	if got := checkOp(t, call); got != text || !checkOpRead(t, text) {
		t.Fatalf("%v is written as %q, not %q", call, got, text)
	}
	longest := wireTokens()[3]
	if got := checkReq(t, does(3, longest, call)); got != "3 2.1000000.1000000.1000000006 "+text || !checkReqRead(t, got) {
		t.Fatalf("a request of %v is written as %q", call, got)
	}
}

func TestWhoseATextIsByHand(t *testing.T) {
	for _, c := range []struct {
		text string
		want int
	}{
		{"", nobody}, {"*", nobody}, {"0", nobody}, {"3", nobody}, {" ", nobody}, {"  ", nobody},
		{"* ", operator}, {"* x", operator}, {"*  ", operator}, {"* * ", operator}, {"*x", nobody}, {"** ", nobody}, {"*\t", nobody}, {"*\x00", nobody}, {" * ", nobody}, {"*\u00a0", nobody},
		{"0 ", 0}, {"1 ", 1}, {"2 ", 2}, {"3 ", 3}, {"4 ", nobody}, {"5 ", nobody}, {"9 ", nobody}, {"-1 ", nobody}, {"/ ", nobody}, {": ", nobody}, {"+ ", nobody}, {") ", nobody},
		{"0 x", 0}, {"3 1.50.0.7 close", 3}, {"2  ", 2}, {"00 ", nobody}, {"03 ", nobody}, {"0\t", nobody}, {"0x", nobody}, {"0*", nobody}, {" 0 ", nobody}, {"0\u00a0", nobody}, {"\uff10 ", nobody}, {"\u0661 ", nobody},
		{"0 " + strings.Repeat("x", 800), 0}, {"* " + strings.Repeat(" ", 1<<16), operator}, {strings.Repeat("0", 1<<16), nobody},
	} {
		if got := impl.WireOf(c.text); got != c.want || got != ofTruth(c.text) {
			t.Errorf("WireOf(%.60q) is %d, not %d", c.text, got, c.want)
		}
	}
}

// P18: whose a text is hangs on its first two bytes alone, whichever they are.
func TestWhoseATextIsByItsFirstTwoBytes(t *testing.T) {
	tails := []string{"", " ", "x", "1.50.0.7 close", "5 post base 1900 x", "* ", "0 ", "\x00\xff", strings.Repeat("x", 800)}
	count := map[int]int{}
	for first := range 256 {
		checkNoText(t, string([]byte{byte(first)}))
		for second := range 256 {
			begin := string([]byte{byte(first), byte(second)})
			for _, tail := range tails {
				got := impl.WireOf(begin + tail)
				if got != ofTruth(begin) {
					t.Fatalf("P18: WireOf(%q) is %d, not %d", begin+tail, got, ofTruth(begin))
				}
				count[got]++
			}
		}
	}
	for whose := 0; whose <= operator; whose++ {
		if count[whose] != len(tails) {
			t.Errorf("of %d are %d texts", whose, count[whose])
		}
	}
}

func TestCallsByHand(t *testing.T) {
	for _, c := range []struct {
		call impl.BillOp
		text string
	}{
		{op(1, "base", "(add a b)", 1900), "set base 1900 (add a b)"},
		{op(1, "a", "x", 0), "set a 0 x"},
		{op(1, "!", "a  b   ", -5), "set ! -5 a  b   "},
		{op(1, "5", "5 5", 5), "set 5 5 5 5"},
		{op(2, "base", "", 0), "drop base"},
		{op(2, "5", "", 0), "drop 5"},
		{op(3, "e1", "calls", 1250), "use e1 calls 1250"},
		{op(3, "1", "2", -3), "use 1 2 -3"},
		{op(4, "e1", "", 7), "fix e1 7"},
		{op(5, "", "", 0), "close"},
		{op(6, "1", "", 100), "credit 1 100"},
		{op(6, "one", "", -lastNumber), "credit one -99999999999999999"},
		{op(7, "", "", 0), "pay 0"},
		{op(7, "", "", 1000), "pay 1000"},
		{op(7, "", "", -lastNumber), "pay -99999999999999999"},
		{op(7, "", "", lastNumber), "pay 99999999999999999"},
	} {
		checkWritten(t, c.call, c.text)
	}
	for _, call := range []impl.BillOp{{}, op(0, "a", "b", 1), op(8, "", "", 0), op(-1, "", "", 0), op(8, "a", "b", 1), op(1, "", "x", 1), op(1, "a", "", 1), op(2, "", "", 0), op(3, "e1", "", 4), op(3, "", "gb", 4), op(7, "", "", lastNumber+1), op(7, "", "", -lastNumber-1)} {
		if text := checkOp(t, call); text != "" {
			t.Errorf("%v is written as %q", call, text)
		}
	}
}

func TestRequestsByHand(t *testing.T) {
	shown := token(1, 50, 0, 7)
	for _, c := range []struct {
		q    impl.WireReq
		text string
	}{
		{does(0, shown, op(1, "base", "(add a b)", 1900)), "0 1.50.0.7 set base 1900 (add a b)"},
		{does(1, shown, op(2, "base", "", 0)), "1 1.50.0.7 drop base"},
		{does(2, shown, op(3, "e1", "gb", 4)), "2 1.50.0.7 use e1 gb 4"},
		{does(3, shown, op(4, "e1", "", -4)), "3 1.50.0.7 fix e1 -4"},
		{does(0, shown, op(5, "", "", 0)), "0 1.50.0.7 close"},
		{does(1, shown, op(6, "1", "", 9)), "1 1.50.0.7 credit 1 9"},
		{does(2, shown, op(7, "", "", 9)), "2 1.50.0.7 pay 9"},
		{sees(3, shown, 1, 3), "3 1.50.0.7 see 1 3"},
		{sees(0, shown, 0, 0), "0 1.50.0.7 see 0 0"},
		{sees(1, shown, -1, -lastNumber), "1 1.50.0.7 see -1 -99999999999999999"},
		{sees(1, shown, lastNumber, 77), "1 1.50.0.7 see 99999999999999999 77"},
		{adopts(2, shown, "base"), "2 1.50.0.7 adopt base"},
		{adopts(2, shown, "adopt"), "2 1.50.0.7 adopt adopt"},
		{rekeys(3, shown), "3 1.50.0.7 rekey"},
		{rekeys(0, token(3, lastTime, lastTime, lastMark)), "0 3.1000000.1000000.1000000006 rekey"},
		{rekeys(0, token(1, 0, 0, 0)), "0 1.0.0.0 rekey"},
	} {
		if got := checkReq(t, c.q); got != c.text || !checkReqRead(t, c.text) {
			t.Errorf("%v is written as %q, not %q", c.q, got, c.text)
		}
	}
	for _, q := range []impl.WireReq{{}, {Verb: impl.WireDoes}, {Verb: impl.WireSees}, {Verb: impl.WireAdopts, Name: "base"}, {Verb: impl.WireRekeys}, {Token: shown}, {Token: shown, Verb: impl.WireDoes}, {Token: shown, Verb: impl.WireAdopts}, does(4, shown, op(5, "", "", 0)), does(-1, shown, op(5, "", "", 0)), does(0, shown, op(1, "base", " x", 5))} {
		if text := checkReq(t, q); text != "" {
			t.Errorf("%v is written as %q", q, text)
		}
	}
	for _, text := range []string{"", " ", "0", "0 ", "0 1.50.0.7", "0 1.50.0.7 ", "0 1.50.0.7  ", "0 1.50.0.7 fly", "0 1.50.0.7 fly 1", "0 1.50.0.7 close 1", "0 1.50.0.7 close ", "0 1.50.0.7  close", "0  1.50.0.7 close", " 0 1.50.0.7 close", "0 1.50.0.7 pay 01", "0 1.50.0.7 pay +1", "0 1.50.0.7 pay -0", "0 1.50.0.7 pay", "0 1.50.0.7 pay ", "0 1.50.0.7 see", "0 1.50.0.7 see 1", "0 1.50.0.7 see 1 ", "0 1.50.0.7 see 1  3", "0 1.50.0.7 see 1 3 ", "0 1.50.0.7 see 1 3 5", "0 1.50.0.7 see a b", "0 1.50.0.7 adopt", "0 1.50.0.7 adopt ", "0 1.50.0.7 adopt a b", "0 1.50.0.7 rekey ", "0 1.50.0.7 rekey 1", "0 1.50.0.7 rekeys", "0 1.50.0.7 Close", "0 1.50.0.7 CLOSE",
		"4 1.50.0.7 close", "9 1.50.0.7 close", "-1 1.50.0.7 close", "-0 1.50.0.7 close", "00 1.50.0.7 close", "01 1.50.0.7 close", "+1 1.50.0.7 close", "* 1.50.0.7 close", "x 1.50.0.7 close", "0\t1.50.0.7 close", "0 1.50.0.7\tclose", "0 1.50.0.7close", "01.50.0.7 close", "0 1.50.7 close", "0 1.50.0.7.0 close", "0 0.50.0.7 close", "0 4.50.0.7 close", "0 close", "0 close 1.50.0.7", "1.50.0.7 0 close", "1.50.0.7 close",
		"0 1.50.0.7 set a 5", "0 1.50.0.7 set a 5 ", "0 1.50.0.7 set a 5  x", "0 1.50.0.7 set a x", "0 1.50.0.7 set a x 5", "0 1.50.0.7 set  5 x", "0 1.50.0.7 drop", "0 1.50.0.7 drop a b", "0 1.50.0.7 use e1 gb", "0 1.50.0.7 use e1 4", "0 1.50.0.7 use e1 gb 4 4", "0 1.50.0.7 use e1  4", "0 1.50.0.7 fix e1", "0 1.50.0.7 fix 4", "0 1.50.0.7 fix e1 gb 4", "0 1.50.0.7 credit 1", "0 1.50.0.7 credit 1 2 3",
		"close ", " close", "close\n", "closes", "clos", "close close", "pay", "pay x", "pay 1 2", "pay  1", "Pay 1", "see 1 3", "adopt base", "rekey", "post base 1900 x", "drop\tbase", "drop base\n"} {
		checkNoText(t, text)
	}
}

func TestPostingsByHand(t *testing.T) {
	longest := impl.RuleText(exprOfSize(t, 600))
	for _, c := range []struct {
		text string
		want impl.WirePost
	}{
		{"* 5 post base 1900 (add a b)", posting(5, line("base", "(add a b)", 1900))},
		{"* 0 post a 0 0", posting(0, line("a", "0", 0))},
		{"* 99999999999999999 post zzzzzzzz 5000 (steps calls 100:0 1000:2 0:1)", posting(lastNumber, line("zzzzzzzz", "(steps calls 100:0 1000:2 0:1)", 5000))},
		{"* 10000000000000000 post post 1 post", posting(10000000000000000, line("post", "post", 1))},
		{"* 1000000006 post long 4999 " + longest, posting(lastMark, line("long", longest, 4999))},
	} {
		got, ok := impl.WirePosted(c.text)
		if !ok || got != c.want || !checkPosted(t, c.text) || checkText(t, c.text) != 1 {
			t.Errorf("%q is read as %v %v", c.text, got, ok)
		}
	}
	for _, text := range []string{"", "*", "* ", "* 5", "* 5 ", "* 5 post", "* 5 post ", "* 5 post base", "* 5 post base ", "* 5 post base 1900", "* 5 post base 1900 ", "* 5 post base 1900  x", "* 5 post base 1900 x ", "* 5 post base 1900 x x", "* 5 post base x", "* 5 post base x 1900", "* 5 post 1900 base x", "* 5 base 1900 x", "* post base 1900 x", "* post 5 base 1900 x", "5 post base 1900 x", "* 5 posts base 1900 x", "* 5 Post base 1900 x", "* 5 set base 1900 x", "* 5  post base 1900 x", "*  5 post base 1900 x", " * 5 post base 1900 x", "** 5 post base 1900 x", "*5 post base 1900 x", "* 5 post  base 1900 x", "* 5 post base  1900 x", "* 5\tpost base 1900 x", "* 5 post base 1900 x\n", "* 5 post base 1900 x\x00",
		"0 5 post base 1900 x", "3 5 post base 1900 x", "4 5 post base 1900 x", "x 5 post base 1900 x", "+ 5 post base 1900 x", "0 1.50.0.7 post base 1900 x",
		"* -1 post base 1900 x", "* -0 post base 1900 x", "* +5 post base 1900 x", "* 00 post base 1900 x", "* 05 post base 1900 x", "* 5.0 post base 1900 x", "* a post base 1900 x", "* 1_0 post base 1900 x", "* 0x5 post base 1900 x", "* 1e3 post base 1900 x", "* -99999999999999999 post base 1900 x", "* 100000000000000000 post base 1900 x", "* 999999999999999999 post base 1900 x", "* 000000000000000005 post base 1900 x", "* 9223372036854775807 post base 1900 x", "* 18446744073709551621 post base 1900 x",
		"* 5 post base -1 x", "* 5 post base -0 x", "* 5 post base +1 x", "* 5 post base 01900 x", "* 5 post base 00 x", "* 5 post base 5001 x", "* 5 post base 9999 x", "* 5 post base 99999999999999999 x", "* 5 post base 100000000000000000 x", "* 5 post base 999999999999999999 x", "* 5 post base 00000000000000019 x", "* 5 post base 18446744073709551616 x", "* 5 post base 4294967297 x",
		"* 5 post Base 1900 x", "* 5 post add 1900 x", "* 5 post tier 1900 x", "* 5 post abcdefghi 1900 x", "* 5 post base1 1900 x", "* 5 post ba se 1900 x", "* 5 post * 1900 x",
		"* 5 post base 1900 X", "* 5 post base 1900 (add a b", "* 5 post base 1900 (add a  b)", "* 5 post base 1900 if", "* 5 post base 1900 01", "* 5 post base 1900 1000000001", "* 5 post base 1900 (steps x 1:1)",
		"* 5 post base 1900 " + impl.RuleText(exprOfSize(t, 601)), "* 5 post base 1900 " + longest + " ", "* 5 post base 1900 " + strings.Repeat("x", 800), "* " + strings.Repeat("9", 800) + " post base 1900 x"} {
		checkNoText(t, text)
	}
}

// Postings of all keys, taxes and lines at the bounds and beside them.
func TestPostingsAtTheirBounds(t *testing.T) {
	write := func(key, tax, name, rule string) string { return "* " + key + " post " + name + " " + tax + " " + rule }
	for digits := 1; digits <= 25; digits++ {
		for _, digit := range []string{"1", "4", "9"} {
			number := strings.Repeat(digit, digits)
			if got := checkPosted(t, write(number, "1900", "base", "x")); got != (digits <= 17) {
				t.Errorf("a key of %d digits: %v", digits, got)
			}
			if got := checkPosted(t, write("5", number, "base", "x")); got != (digits <= 3 || digits == 4 && digit < "5") {
				t.Errorf("a tax of %s: %v", number, got)
			}
			for _, wrong := range []string{"0" + number, "-" + number, "+" + number, number + ".", " " + number, number + " "} {
				checkNoText(t, write(wrong, "1900", "base", "x"))
				checkNoText(t, write("5", wrong, "base", "x"))
			}
		}
	}
	for tax := -10; tax <= 5010; tax++ {
		if got := checkPosted(t, write("0", strconv.Itoa(tax), "base", "x")); got != (tax >= 0 && tax <= 5000) {
			t.Errorf("a tax of %d: %v", tax, got)
		}
	}
	for _, n := range append(edgeNumbers(), noNumbers()...) {
		if got := checkPosted(t, write(strconv.Itoa(n), "0", "base", "x")); got != (n >= 0 && n <= lastNumber) {
			t.Errorf("a key of %d: %v", n, got)
		}
	}
	for _, edge := range edgeLines(t) {
		if !checkPosted(t, write("5", strconv.Itoa(edge.Tax), edge.Name, edge.Rule)) {
			t.Errorf("%v is not read", edge)
		}
	}
	for _, wrong := range wrongLines() {
		checkNoText(t, write("5", strconv.Itoa(wrong.Tax), wrong.Name, wrong.Rule))
	}
	for _, number := range wrongNumbers() {
		checkPosted(t, write(number, "1900", "base", "x"))
		checkPosted(t, write("5", number, "base", "x"))
	}
}

// P18, at each place where a word stands.
func TestWordsAtTheirBounds(t *testing.T) {
	places := []struct {
		call func(word string) impl.BillOp
		text func(word string) string
	}{
		{func(w string) impl.BillOp { return op(1, w, "x y", 5) }, func(w string) string { return "set " + w + " 5 x y" }},
		{func(w string) impl.BillOp { return op(2, w, "", 0) }, func(w string) string { return "drop " + w }},
		{func(w string) impl.BillOp { return op(3, w, "gb", 5) }, func(w string) string { return "use " + w + " gb 5" }},
		{func(w string) impl.BillOp { return op(3, "e1", w, 5) }, func(w string) string { return "use e1 " + w + " 5" }},
		{func(w string) impl.BillOp { return op(4, w, "", 5) }, func(w string) string { return "fix " + w + " 5" }},
		{func(w string) impl.BillOp { return op(6, w, "", 5) }, func(w string) string { return "credit " + w + " 5" }},
	}
	for _, place := range places {
		for _, word := range edgeWords() {
			checkWritten(t, place.call(word), place.text(word))
		}
		for _, word := range noWords() {
			// Of a word with a number or a rule in it the text may be that of another call, but not of this one.
			if call := place.call(word); checkOp(t, call) != "" || checkReq(t, does(0, wireTokens()[0], call)) != "" {
				t.Fatalf("%.60q is written", fmt.Sprint(call))
			}
			checkText(t, place.text(word))
			checkText(t, "0 1.0.0.0 "+place.text(word))
		}
	}
	for _, word := range edgeWords() {
		if got := checkReq(t, adopts(1, wireTokens()[1], word)); got != "1 2.50.1.7 adopt "+word {
			t.Errorf("adopting %q is written as %q", word, got)
		}
	}
	for _, word := range noWords() {
		if got := checkReq(t, adopts(1, wireTokens()[1], word)); got != "" || checkReqRead(t, "1 2.50.1.7 adopt "+word) {
			t.Errorf("adopting %.60q is written as %.60q or read", word, got)
		}
	}
}

// P18, of rules: spaces within them and at their ends are theirs.
func TestRulesAtTheirBounds(t *testing.T) {
	for _, rule := range edgeRules() {
		checkWritten(t, op(1, "base", rule, 1900), "set base 1900 "+rule)
		checkWritten(t, op(1, strings.Repeat("~", 20), rule, -lastNumber), "set "+strings.Repeat("~", 20)+" -99999999999999999 "+rule)
	}
	for _, rule := range noRules() {
		checkSpoilt(t, op(1, "base", rule, 1900), "set base 1900 "+rule)
	}
	for size := range 605 {
		call, text := op(1, "base", strings.Repeat("x", size), 5), "set base 5 "+strings.Repeat("x", size)
		if size < 1 || size > 600 {
			checkSpoilt(t, call, text)
		} else {
			checkWritten(t, call, text)
		}
	}
}

// P18, at each place where a number stands.
func TestWireNumbersAtTheirBounds(t *testing.T) {
	places := []struct {
		call func(n int) impl.BillOp
		text string
	}{
		{func(n int) impl.BillOp { return op(1, "a", "x", n) }, "set a % x"},
		{func(n int) impl.BillOp { return op(3, "a", "b", n) }, "use a b %"},
		{func(n int) impl.BillOp { return op(4, "a", "", n) }, "fix a %"},
		{func(n int) impl.BillOp { return op(6, "a", "", n) }, "credit a %"},
		{func(n int) impl.BillOp { return op(7, "", "", n) }, "pay %"},
	}
	for _, place := range places {
		write := func(number string) string { return strings.Replace(place.text, "%", number, 1) }
		for _, n := range edgeNumbers() {
			checkWritten(t, place.call(n), write(strconv.Itoa(n)))
		}
		for _, n := range noNumbers() {
			checkSpoilt(t, place.call(n), write(strconv.Itoa(n)))
		}
		checkNumberTexts(t, write)
		checkNumberTexts(t, func(number string) string { return "0 1.0.0.0 " + write(number) })
	}
	checkNumberTexts(t, func(number string) string { return "0 1.0.0.0 see " + number + " 3" })
	checkNumberTexts(t, func(number string) string { return "0 1.0.0.0 see 1 " + number })
	for _, n := range edgeNumbers() {
		if checkReq(t, sees(0, wireTokens()[0], n, 3)) == "" || checkReq(t, sees(0, wireTokens()[0], 1, n)) == "" || checkReq(t, sees(0, wireTokens()[0], n, n)) == "" {
			t.Errorf("seeing %d is not written", n)
		}
	}
	for _, n := range noNumbers() {
		if checkReq(t, sees(0, wireTokens()[0], n, 3)) != "" || checkReq(t, sees(0, wireTokens()[0], 1, n)) != "" || checkReq(t, sees(0, wireTokens()[0], n, n)) != "" {
			t.Errorf("seeing %d is written", n)
		}
	}
}

// checkNumberTexts holds a text against the document in which a number is written in all kinds of ways.
func checkNumberTexts(t *testing.T, write func(number string) string) {
	t.Helper()
	for _, number := range wrongNumbers() {
		checkText(t, write(number))
	}
	for _, number := range []string{"", "-", "+", "+1", "-0", "+0", "00", "01", "-01", "--1", "1-", "1 ", " 1", "1.", "1.0", "1e3", "0x1", "1_000", "\u0661", "x", "100000000000000000", "-100000000000000000", "000000000000000001", "999999999999999999", "-999999999999999999", "9223372036854775807", "-9223372036854775808", "9223372036854775808", "18446744073709551616", "18446744073709551617", "-18446744073709551615", strings.Repeat("0", 300), strings.Repeat("0", 300) + "1", strings.Repeat("9", 300), strings.Repeat("1", 1<<16)} {
		checkNoText(t, write(number))
	}
	for digits := 1; digits <= 25; digits++ {
		for _, number := range []string{strings.Repeat("9", digits), "-" + strings.Repeat("9", digits), "1" + strings.Repeat("0", digits-1), "-1" + strings.Repeat("0", digits-1)} {
			if read := checkText(t, write(number)); (read > 0) != (digits <= 17) {
				t.Fatalf("P18: %q is read by %d", write(number), read)
			}
		}
	}
}

// A part that is not written is nothing, for each kind of call.
func TestPartsOfCallsThatAreNotWritten(t *testing.T) {
	for _, call := range plainCalls() {
		text := checkOp(t, call)
		for _, a := range []string{call.A, "", "a", " ", "\x00", "a b", "0"} {
			for _, b := range []string{call.B, "", "b", " ", "\x00", "0"} {
				for _, n := range []int{call.N, 0, 1, -1, lastNumber, lastNumber + 1, math.MinInt} {
					other := op(call.Kind, a, b, n)
					if got := checkOp(t, other); got == text && other != call {
						t.Fatalf("%v and %v are written as %q", call, other, text)
					}
				}
			}
		}
		for _, kind := range noKinds() {
			if got := checkOp(t, op(kind, call.A, call.B, call.N)); got != "" {
				t.Fatalf("%v as of kind %d is written as %q", call, kind, got)
			}
		}
		for kind := range 9 {
			checkOp(t, op(kind, call.A, call.B, call.N))
		}
	}
	for kind := range 9 {
		checkOp(t, impl.BillOp{Kind: kind})
	}
}

// A part that is not written is nothing, for each verb: one part or several are another one each.
func TestPartsOfRequestsThatAreNotWritten(t *testing.T) {
	turns := []func(q *impl.WireReq){
		func(q *impl.WireReq) { q.Name = "a" }, func(q *impl.WireReq) { q.Name = " " }, func(q *impl.WireReq) { q.Name = "" },
		func(q *impl.WireReq) { q.What = 1 }, func(q *impl.WireReq) { q.What = -1 }, func(q *impl.WireReq) { q.What = lastNumber + 1 },
		func(q *impl.WireReq) { q.N = 1 }, func(q *impl.WireReq) { q.N = math.MinInt }, func(q *impl.WireReq) { q.N = 0 },
		func(q *impl.WireReq) { q.Op = op(impl.BillCloses, "", "", 0) }, func(q *impl.WireReq) { q.Op = op(0, "a", "", 0) }, func(q *impl.WireReq) { q.Op = op(0, "", "b", 0) }, func(q *impl.WireReq) { q.Op = op(0, "", "", 1) }, func(q *impl.WireReq) { q.Op = op(-1, "", "", 0) }, func(q *impl.WireReq) { q.Op = impl.BillOp{} },
		func(q *impl.WireReq) { q.Op.A = "a" }, func(q *impl.WireReq) { q.Op.B = "b" }, func(q *impl.WireReq) { q.Op.N = 1 }, func(q *impl.WireReq) { q.Op.Kind++ },
		func(q *impl.WireReq) { q.Token = impl.SealToken{} }, func(q *impl.WireReq) { q.Tenant++ }, func(q *impl.WireReq) { q.Verb++ }, func(q *impl.WireReq) { q.Verb-- },
	}
	for _, q := range plainReqs() {
		text := checkReq(t, q)
		if text == "" {
			t.Fatalf("%v is not written", q)
		}
		for _, first := range turns {
			for _, second := range turns {
				other := q
				first(&other)
				second(&other)
				if got := checkReq(t, other); got == text && other != q {
					t.Fatalf("%v and %v are written as %q", q, other, text)
				}
			}
		}
		for _, verb := range noVerbs() {
			other := q
			other.Verb = verb
			if got := checkReq(t, other); got != "" {
				t.Fatalf("%v is written as %q", other, got)
			}
		}
		for _, tenant := range append(wrongTenants(), 4, 5, 6, 7, 8, 9, 260, -4, 1<<32+3) {
			other := q
			other.Tenant = tenant
			if got := checkReq(t, other); got != "" {
				t.Fatalf("%v is written as %q", other, got)
			}
			if spoilt := strconv.Itoa(tenant) + text[1:]; checkReqRead(t, spoilt) {
				t.Fatalf("P18: %q is read", spoilt)
			}
		}
	}
}

// A request whose token has not the form of one is none, written or read.
func TestRequestsWithTokensWithoutForm(t *testing.T) {
	for _, q := range []impl.WireReq{does(0, impl.SealToken{}, op(impl.BillCloses, "", "", 0)), does(3, impl.SealToken{}, op(impl.BillSets, "a", "x  y", 5)), sees(1, impl.SealToken{}, 1, 3), adopts(2, impl.SealToken{}, "base"), rekeys(3, impl.SealToken{})} {
		for _, shown := range formlessTokens() {
			q.Token = shown
			if got := checkReq(t, q); got != "" {
				t.Fatalf("%v is written as %q", q, got)
			}
		}
		q.Token = wireTokens()[0]
		text := checkReq(t, q)
		for _, shown := range []string{"", ".", "...", "1", "1.0", "1.0.0", "1.0.0.", "1.0.0.0.", "1.0.0.0.0", ".1.0.0.0", "0.0.0.0", "4.0.0.0", "01.0.0.0", "1.00.0.0", "1.0.-0.0", "1.0.0.+0", "1.-1.0.0", "1.1000001.0.0", "1.0.1000001.0", "1.0.0.1000000007", "1 0 0 0", "1.0.0.0 ", " 1.0.0.0", "1.0.0.0\n", "1,0,0,0", "x", strings.Repeat("1", 700)} {
			spoilt := strings.Replace(text, "1.0.0.0", shown, 1)
			if checkReqRead(t, spoilt) {
				t.Fatalf("P18: %q is read", spoilt)
			}
		}
		for _, shown := range formlessTokens() {
			spoilt := strings.Replace(text, "1.0.0.0", fmt.Sprintf("%d.%d.%d.%d", shown.Role, shown.Until, shown.Epoch, shown.Mac), 1)
			if checkReqRead(t, spoilt) {
				t.Fatalf("P18: %q is read", spoilt)
			}
		}
	}
}

// plainTexts is texts of each kind that are read.
func plainTexts(t *testing.T) []string {
	t.Helper()
	var texts []string
	for _, call := range plainCalls() {
		texts = append(texts, impl.WireOp(call))
	}
	for _, q := range plainReqs() {
		texts = append(texts, impl.WireText(q))
	}
	texts = append(texts, "* 5 post base 1900 (add a b)", "* 0 post a 0 0", "* 99999999999999999 post zzzzzzzz 5000 (steps calls 100:0 1000:2 0:1)")
	for _, text := range texts {
		if checkText(t, text) != 1 {
			t.Fatalf("%q is not read by one reader", text)
		}
	}
	return texts
}

// P18: texts of which a word lacks, comes twice, is turned about with the next one, or is another one.
func TestTextsWithWordsTooFewOrTooMany(t *testing.T) {
	read := 0
	for _, text := range plainTexts(t) {
		words := strings.Split(text, " ")
		look := func(words []string) { read += checkText(t, strings.Join(words, " ")) }
		for i := range words {
			look(slices.Delete(slices.Clone(words), i, i+1))
			look(slices.Insert(slices.Clone(words), i, words[i]))
			look(words[:i])
			look(words[i:])
			if i > 0 {
				turned := slices.Clone(words)
				turned[i-1], turned[i] = turned[i], turned[i-1]
				look(turned)
			}
			for _, other := range []string{"", " ", "x", "0", "-0", "01", "1", "-1", "4", "*", "set", "drop", "use", "fix", "close", "credit", "pay", "see", "adopt", "rekey", "post", "fly", "1.0.0.0", "1.0.0"} {
				turned := slices.Clone(words)
				turned[i] = other
				look(turned)
				look(slices.Insert(slices.Clone(words), i, other))
				look(append(slices.Clone(words), other))
			}
		}
	}
	if read < 1000 {
		t.Error("what was read is too little:", read)
	}
}

// P18: texts that are one byte off from one that is read.
func TestWireTextsOneByteOff(t *testing.T) {
	read := 0
	for _, text := range []string{"set a 19 x  y", "drop ab", "use e1 gb 45", "fix e1 -7", "close", "credit 1 10", "pay -10", "0 1.50.0.7 close", "3 2.0.1.9 see 1 30", "2 3.1.0.0 adopt b", "1 1.0.0.8 rekey", "0 1.0.0.0 set a 0 x y", "* 50 post b 19 (min x 5)"} {
		if checkText(t, text) != 1 {
			t.Fatalf("%q is not read", text)
		}
		for place := 0; place <= len(text); place++ {
			for b := range 256 {
				other := string([]byte{byte(b)})
				read += checkText(t, text[:place]+other+text[place:])
				if place < len(text) {
					read += checkText(t, text[:place]+other+text[place+1:])
				}
			}
			read += checkText(t, text[:place]) + checkText(t, text[place:])
			if place < len(text) {
				read += checkText(t, text[:place]+text[place+1:])
			}
		}
	}
	if read < 3000 {
		t.Error("what was read is too little:", read)
	}
}

// P18: of all short texts behind a beginning, just those that are written are read.
func TestReadOfAllShortWireTexts(t *testing.T) {
	for _, c := range []struct {
		begin, bytes string
		size, want   int
	}{
		// All numbers of up to 4 bytes: 0, 19 with - or without of one digit, of two and so on.
		{"pay ", "019- ", 4, 1 + 2*(2+6+18) + 54},
		{"0 1.0.0.0 pay ", "019- ", 4, 1 + 2*(2+6+18) + 54},
		// Two numbers with a space between: of 3 bytes each 0 or 1, of 4 bytes one of them of 2 bytes.
		{"0 1.0.0.0 see ", "01 ", 4, 2*2 + 2*(2*2)},
		{"fix ", "1 a", 4, 2 + 2*1 + 2*2},
		{"set a 1 ", "x ", 6, 1 + 2 + 4 + 8 + 16 + 32},
		{"set a ", "1 x", 4, 2 + 2*3 + 2},
		{"use ", "1 ", 6, 1 + 3},
		{"", "clo se", 5, 1},
		{"0 1.0.0.0", " rekyd", 6, 1},
	} {
		read := 0
		var grow func(text []byte, left int)
		grow = func(text []byte, left int) {
			if checkText(t, string(text)) > 0 {
				read++
			}
			for i := range len(c.bytes) {
				if left > 0 {
					grow(append(text, c.bytes[i]), left-1)
				}
			}
		}
		grow([]byte(c.begin), c.size)
		if read != c.want {
			t.Errorf("of all texts of up to %d of the bytes %q behind %q, %d are read, not %d", c.size, c.bytes, c.begin, read, c.want)
		}
	}
}

// A text of WireMax bytes and one more, whatever begins so: nothing is as long as that.
func TestWireTextsOfManyBytes(t *testing.T) {
	for _, begin := range []string{"", "set a 5 x", "drop a", "use a b 1", "pay 1", "close", "credit 1 1", "0 1.0.0.0 set a 5 x", "0 1.0.0.0 close", "0 1.0.0.0 see 1 3", "0 1.0.0.0 adopt a", "3 1.0.0.0 rekey", "* 5 post base 1900 x", "* 5"} {
		for _, fill := range []string{"x", " ", "1", "0", "\x00", "."} {
			for _, size := range []int{799, 800, 801, 802, 1600, 1 << 16} {
				checkNoText(t, begin+strings.Repeat(fill, size-len(begin)))
			}
			for size := 560; size < 700; size++ {
				checkText(t, begin+strings.Repeat(fill, size-len(begin)))
			}
		}
	}
	longest := does(3, wireTokens()[3], op(1, strings.Repeat("~", 20), strings.Repeat("x ", 300), -lastNumber))
	if text := checkReq(t, longest); len(text) != 1+1+28+1+4+20+1+18+1+600 || checkText(t, text+"x") != 0 {
		t.Errorf("the longest request has %d bytes", len(text))
	}
}

// Whose a text is, what is a call, a request and a posting do not meet: no text is read by two readers.
func TestNoTextIsTwoThings(t *testing.T) {
	for _, text := range plainTexts(t) {
		call, isCall := impl.WireReadOp(text)
		q, isReq := impl.WireRead(text)
		post, isPost := impl.WirePosted(text)
		switch whose := impl.WireOf(text); {
		case isCall && (whose != nobody || isReq || isPost), isReq && (whose != q.Tenant || isPost), isPost && whose != operator:
			t.Errorf("%q is of %d: %v %v %v", text, whose, call, q, post)
		}
	}
}

// reqsForMay is requests of each verb and each kind of call, and of such as there are not, whatever else they have.
func reqsForMay() []impl.WireReq {
	var all []impl.WireReq
	for _, verb := range append(wireVerbs(), noVerbs()...) {
		for _, kind := range append([]int{1, 2, 3, 4, 5, 6, 7}, noKinds()...) {
			q := impl.WireReq{Verb: verb, Op: impl.BillOp{Kind: kind}}
			all = append(all, q)
			q.Tenant, q.Token, q.What, q.N, q.Name, q.Op = 4, token(1, 50, 0, 7), 3, -1, "base", op(kind, "e1", "gb", 4)
			all = append(all, q)
			q.Tenant, q.Token.Role, q.What, q.Name = 0, 3, 1, ""
			all = append(all, q)
		}
	}
	return append(all, plainReqs()...)
}

func TestWhatARoleMayRequest(t *testing.T) {
	may := map[int]int{}
	for _, q := range reqsForMay() {
		for _, role := range append(seeRoles(), noRoles()...) {
			got := impl.WireMay(role, q)
			if got != mayTruth(role, q) {
				t.Fatalf("WireMay(%d, %v) is %v", role, q, got)
			}
			if got {
				may[role]++
			}
		}
	}
	if len(may) != 3 || may[1] != len(reqsForMay()) {
		t.Error("who may request how much:", may)
	}
}

func TestWhatARoleMayRequestByHand(t *testing.T) {
	for _, c := range []struct {
		q    impl.WireReq
		want [5]bool
	}{
		{does(0, token(1, 0, 0, 0), op(impl.BillSets, "a", "x", 1)), [5]bool{1: true}},
		{does(0, token(1, 0, 0, 0), op(impl.BillDrops, "a", "", 0)), [5]bool{1: true}},
		{does(0, token(1, 0, 0, 0), op(impl.BillUses, "a", "b", 1)), [5]bool{1: true, 2: true}},
		{does(0, token(1, 0, 0, 0), op(impl.BillFixes, "a", "", 1)), [5]bool{1: true, 2: true}},
		{does(0, token(1, 0, 0, 0), op(impl.BillCloses, "", "", 0)), [5]bool{1: true}},
		{does(0, token(1, 0, 0, 0), op(impl.BillCredits, "1", "", 1)), [5]bool{1: true}},
		{does(0, token(1, 0, 0, 0), op(impl.BillPays, "", "", 1)), [5]bool{1: true}},
		{sees(0, token(1, 0, 0, 0), impl.SeeTariff, 0), [5]bool{1: true, 2: true, 3: true}},
		{adopts(0, token(1, 0, 0, 0), "a"), [5]bool{1: true}},
		{rekeys(0, token(1, 0, 0, 0)), [5]bool{1: true}},
		{impl.WireReq{}, [5]bool{1: true}},
		{impl.WireReq{Op: op(impl.BillUses, "a", "b", 1)}, [5]bool{1: true}},
		{impl.WireReq{Verb: impl.WireAdopts, Op: op(impl.BillUses, "a", "b", 1)}, [5]bool{1: true}},
	} {
		for role, want := range c.want {
			if got := impl.WireMay(role, c.q); got != want {
				t.Errorf("WireMay(%d, %v) is %v", role, c.q, got)
			}
		}
	}
}

// seenOf is how many of all things that can be asked for a role is told of a bill.
func seenOf(b impl.Bill, role int) int {
	seen := 0
	for _, what := range seeWhats() {
		if impl.SeeText(b, role, what, 1) != "no" {
			seen++
		}
	}
	return seen
}

// P19: of two roles the one that is told less may request nothing that the other one may not, and less altogether.
func TestWhoMaySeeLessMayRequestLess(t *testing.T) {
	for _, less := range append(seeRoles(), noRoles()...) {
		for _, more := range append(seeRoles(), noRoles()...) {
			if seenOf(taken(), less) >= seenOf(taken(), more) {
				continue
			}
			fewer := 0
			for _, q := range reqsForMay() {
				switch a, b := impl.WireMay(less, q), impl.WireMay(more, q); {
				case a && !b:
					t.Fatalf("P19: the role %d sees less than %d, and may request %v", less, more, q)
				case b && !a:
					fewer++
				}
			}
			if fewer == 0 {
				t.Errorf("P19: the role %d sees less than %d, and may request as much", less, more)
			}
		}
	}
}

func drawBytes(r *rand.Rand, bytes string, most int) string {
	text := make([]byte, r.Intn(most+1))
	for i := range text {
		text[i] = bytes[r.Intn(len(bytes))]
	}
	return string(text)
}

// drawWireCall is a call most of which can be written, with parts at and beside their bounds.
func drawWireCall(r *rand.Rand) impl.BillOp {
	call := plainCalls()[r.Intn(len(plainCalls()))]
	for range r.Intn(3) {
		switch r.Intn(5) {
		case 0:
			call.A = drawBytes(r, "abz!~09-", 21)
		case 1:
			call.B = drawBytes(r, "abz!~09-  ", []int{3, 21, 601}[r.Intn(3)])
		case 2:
			call.N = append(edgeNumbers(), noNumbers()...)[r.Intn(20)]
		case 3:
			call.N = int(r.Uint64()) >> r.Intn(64)
		case 4:
			call.Kind = r.Intn(9)
		}
	}
	return call
}

func drawWireReq(r *rand.Rand) impl.WireReq {
	q := plainReqs()[r.Intn(len(plainReqs()))]
	if q.Verb == impl.WireDoes {
		q.Op = drawWireCall(r)
	}
	q.Tenant, q.Token = r.Intn(4), token(1+r.Intn(3), r.Intn(lastTime+1), r.Intn(lastTime+1), r.Intn(lastMark+1))
	switch r.Intn(12) {
	case 0:
		q.Tenant = r.Intn(6) - 1
	case 1:
		q.Token = formlessTokens()[r.Intn(len(formlessTokens()))]
	case 2:
		q.Verb = r.Intn(6)
	case 3:
		q.What = r.Intn(3)
	case 4:
		q.N = int(r.Uint64()) >> r.Intn(64)
	case 5:
		q.Name = drawBytes(r, "abz!~09- ", 21)
	}
	return q
}

// P18, of drawn calls and requests.
func TestReadOfTextOfDrawnRequests(t *testing.T) {
	r := rand.New(rand.NewSource(18))
	written := map[bool]int{}
	for range 20000 {
		written[checkOp(t, drawWireCall(r)) != ""]++
		written[checkReq(t, drawWireReq(r)) != ""]++
	}
	if written[true] < 8000 || written[false] < 8000 {
		t.Error("what was drawn is too plain:", written)
	}
}

// P18, of drawn texts, most of which are nearly those of something.
func TestDrawnWireTexts(t *testing.T) {
	r := rand.New(rand.NewSource(81))
	texts := plainTexts(t)
	count := map[int]int{}
	for range 60000 {
		text := texts[r.Intn(len(texts))]
		for range 1 + r.Intn(3) {
			place := r.Intn(len(text) + 1)
			other := texts[r.Intn(len(texts))]
			switch cut := r.Intn(len(other) + 1); r.Intn(5) {
			case 0:
				text = text[:place] + drawBytes(r, " 019-.*azsetpy\x1f\x7f\xff", 3) + text[place:]
			case 1:
				text = text[:place] + text[min(len(text), place+1+r.Intn(3)):]
			case 2:
				text = text[:place] + other[cut:]
			case 3:
				text = text[:place] + " " + other
			case 4:
				text = other[:cut] + text[place:]
			}
		}
		count[checkText(t, text)]++
	}
	if count[0] < 20000 || count[1] < 5000 || count[2]+count[3] > 0 {
		t.Error("what was drawn is too plain:", count)
	}
}

// What a reader answers does not hang on what it was asked ahead of it.
func TestAReaderThatRefusedReadsOn(t *testing.T) {
	for range 3 {
		for _, text := range []string{"0 1.50.0.7 fly", "0 1.50.0.7 see 1", "", "* 5 post base 9999 x"} {
			checkNoText(t, text)
			checkWritten(t, op(impl.BillPays, "", "", 5), "pay 5")
			if checkText(t, "0 1.50.0.7 see 1 3") != 1 || checkText(t, "* 5 post base 1900 x") != 1 {
				t.Fatal("behind a text that is none others are not read")
			}
		}
	}
}
