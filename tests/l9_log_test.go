package tests

import (
	"math/big"
	"math/rand"
	"slices"
	"strconv"
	"strings"
	"testing"

	"loop.example/scot/impl"
)

const (
	longestText = 1000
	longestLog  = 100000
	lastSum     = 65520
)

func TestLogBounds(t *testing.T) {
	if impl.LogMaxText != longestText || impl.LogMaxAll != longestLog {
		t.Error(impl.LogMaxText, impl.LogMaxAll)
	}
}

// sumTruth is the sum of a text as the document says it, as one sum: each byte, and what stands ahead of all bytes, counts as often as there are bytes behind it.
func sumTruth(text string) int {
	sum, weight := 0, 1
	for i := len(text) - 1; i >= 0; i-- {
		sum += weight * (int(text[i]) + 1)
		weight = weight * 263 % 65521
	}
	return (sum + 7*weight) % 65521
}

// framed is what is written of a text and of two numbers, be they its own or not.
func framed(count, sum, text string) string { return count + " " + sum + " " + text + "\n" }

// frameOf is the frame of a text as the document says it, be the text too long or not.
func frameOf(text string) string {
	return framed(strconv.Itoa(len(text)), strconv.Itoa(sumTruth(text)), text)
}

func logOf(texts []string) string {
	var all strings.Builder
	for _, text := range texts {
		all.WriteString(frameOf(text))
	}
	return all.String()
}

// firstTexts is all texts with whose frames a log begins, sought by trying each number of bytes and of digits.
func firstTexts(log string) []string {
	var found []string
	for size := range longestText + 1 {
		count := strconv.Itoa(size)
		if !strings.HasPrefix(log, count+" ") {
			continue
		}
		for digits := 1; digits <= 5; digits++ {
			from := len(count) + 1 + digits + 1
			if end := from + size + 1; end <= len(log) && log[:end] == frameOf(log[from:end-1]) {
				found = append(found, log[from:end-1])
			}
		}
	}
	return found
}

// logReadTruth is LogRead as the document says it.
func logReadTruth(t *testing.T, all string) ([]string, int) {
	t.Helper()
	if len(all) > longestLog {
		return nil, 0
	}
	var texts []string
	size := 0
	for {
		found := firstTexts(all[size:])
		if len(found) == 0 {
			return texts, size
		}
		if len(found) > 1 {
			t.Fatalf("%.60q begins with two frames", all[size:])
		}
		texts = append(texts, found[0])
		size += len(frameOf(found[0]))
	}
}

// expectLog holds LogRead of a log against what it should tell, and that both its answers are memory of their own.
func expectLog(t *testing.T, all string, texts []string, size int) {
	t.Helper()
	got, whole := impl.LogRead(all)
	if !slices.Equal(got, texts) || whole != size {
		t.Fatalf("LogRead of %d bytes, %.80q, is %d texts, %.80q, and %d, not %d, %.80q, and %d", len(all), all, len(got), got, whole, len(texts), texts, size)
	}
	again, _ := impl.LogRead(all)
	checkApart(t, spanOf(got), spanOf(again))
	for i := range got[:cap(got)] {
		got[:cap(got)][i] = "spoilt"
	}
	if !slices.Equal(again, texts) {
		t.Fatalf("what LogRead of %.80q told was turned from without", all)
	}
}

func checkLog(t *testing.T, all string) {
	t.Helper()
	texts, size := logReadTruth(t, all)
	expectLog(t, all, texts, size)
}

// expectNoFrame holds that no frame is read of what stands alone, behind frames, and ahead of them; what stands ahead of it is read.
func expectNoFrame(t *testing.T, none string) {
	t.Helper()
	expectLog(t, none, nil, 0)
	expectLog(t, none+frameOf("close"), nil, 0)
	ahead := []string{"rekey", "", "\n"}
	expectLog(t, logOf(ahead)+none, ahead, len(logOf(ahead)))
	expectLog(t, logOf(ahead)+none+logOf(ahead), ahead, len(logOf(ahead)))
}

func checkFrame(t *testing.T, text string) {
	t.Helper()
	want := ""
	if len(text) <= longestText {
		want = frameOf(text)
	}
	if got := impl.LogFrame(text); got != want {
		t.Fatalf("LogFrame of %d bytes, %.60q, is %.60q, not %.60q", len(text), text, got, want)
	}
}

// shortTexts is texts with bytes of all kinds, such as look like frames or parts of them, and such whose sums are next to where a number has a digit more.
func shortTexts() []string {
	return []string{
		"", "a", "ab", "ba", "rekey", "close", "pay 1000", "use e1 calls 1250", "set base 1900 (steps calls 100:0 1000:2 0:1)",
		"\n", "\n\n", "a\nb", "\na", "a\n", "a\n\nb\n", "\r\n", " ", "  ", " a", "a ", " \n ", "\x00", "\xff", "\x00\x00\x00", "\xff\xff\xff", "\x00\n\xff \n", "é€\U0001f600", "\xc3", "\xa9\xc3",
		"0 7 \n", "0 7 ", "0 7", "0 ", "0", "1 1939 a\n", "2 51409 ab\n", "2 51409 ab\n0 7 \n", "\n0 7 \n", "\n2 51409 ab\n", "ab\n2 51409 ab", "11 61545 2 51409 ab\n\n", "-1 7 \n", "12 34",
		"eofx", "eofy", "eofw", "cthf", "cthg", "dznu", "dznv", "bnfs", "bnft", "fwvv", "fwvw",
	}
}

// loggedTexts is texts that have frames, of several lengths and up to the bound.
func loggedTexts() []string {
	texts := shortTexts()
	for _, size := range []int{8, 9, 10, 11, 98, 99, 100, 101, 255, 256, 800, longestText - 2, longestText - 1, longestText} {
		for _, unit := range []string{"a", "\x00", "\xff", "\n", " ", "0 7 \n", "use e1 gb 4\n"} {
			texts = append(texts, strings.Repeat(unit, longestText)[:size])
		}
	}
	return texts
}

func TestFramesByHand(t *testing.T) {
	for i, c := range []struct{ text, want string }{
		{"", "0 7 \n"}, {"a", "1 1939 a\n"}, {"ab", "2 51409 ab\n"}, {"ba", "2 51671 ba\n"},
		{"\n", "1 1852 \n\n"}, {"\n\n", "2 28440 \n\n\n"}, {" ", "1 1874  \n"}, {"\x00", "1 1842 \x00\n"}, {"\x00\x00", "2 25800 \x00\x00\n"}, {"\xff", "1 2097 \xff\n"}, {"\xff\xff\xff", "3 51483 \xff\xff\xff\n"}, {"é", "2 11733 é\n"},
		{"0 7 \n", "5 29928 0 7 \n\n"}, {"2 51409 ab\n", "11 61545 2 51409 ab\n\n"},
		{"rekey", "5 12503 rekey\n"}, {"close", "5 21989 close\n"}, {"pay 1000", "8 10083 pay 1000\n"}, {"use e1 calls 1250", "17 51785 use e1 calls 1250\n"},
		// Sums next to where a number has a digit more, and next to the greatest.
		{"eofx", "4 0 eofx\n"}, {"eofy", "4 1 eofy\n"}, {"cthf", "4 9 cthf\n"}, {"cthg", "4 10 cthg\n"}, {"dznu", "4 99 dznu\n"}, {"dznv", "4 100 dznv\n"}, {"bnfs", "4 999 bnfs\n"}, {"bnft", "4 1000 bnft\n"}, {"fwvv", "4 9999 fwvv\n"}, {"fwvw", "4 10000 fwvw\n"}, {"eofw", "4 65520 eofw\n"},
		// As many bytes as there may be, and more.
		{strings.Repeat("a", 999), "999 22547 " + strings.Repeat("a", 999) + "\n"}, {strings.Repeat("a", 1000), "1000 33069 " + strings.Repeat("a", 1000) + "\n"}, {strings.Repeat("\xff", 1000), "1000 15696 " + strings.Repeat("\xff", 1000) + "\n"}, {strings.Repeat("\n", 1000), "1000 28121 " + strings.Repeat("\n", 1000) + "\n"},
		{strings.Repeat("a", 1001), ""}, {strings.Repeat("\n", 1001), ""}, {strings.Repeat("é", 501), ""}, {strings.Repeat("a", 1256), ""}, {strings.Repeat("a", 1<<16), ""}, {strings.Repeat("a", 1<<20), ""},
	} {
		if got := impl.LogFrame(c.text); got != c.want {
			t.Errorf("case %d: LogFrame of %d bytes, %.60q, is %.60q, not %.60q", i, len(c.text), c.text, got, c.want)
		}
	}
}

func TestFramesOfManyTexts(t *testing.T) {
	for _, text := range append(loggedTexts(), markedTexts()...) {
		checkFrame(t, text)
	}
	for size := range longestText + 100 {
		checkFrame(t, strings.Repeat("usage\x00\xff \n", size)[:size])
	}
	r := rand.New(rand.NewSource(9))
	for range 5000 {
		text := make([]byte, r.Intn(longestText+10))
		r.Read(text)
		checkFrame(t, string(text))
	}
}

func TestLogsByHand(t *testing.T) {
	for i, c := range []struct {
		all   string
		texts []string
		size  int
	}{
		{"", nil, 0},
		{"0 7 \n", []string{""}, 5},
		{"0 7 \n0 7 \n0 7 \n", []string{"", "", ""}, 15},
		{"2 51409 ab\n", []string{"ab"}, 11},
		{"2 51409 ab\n0 7 \n2 514", []string{"ab", ""}, 16},
		{"1 1852 \n\n1 1939 a\n", []string{"\n", "a"}, 18},
		{"2 28440 \n\n\n2 28440 \n\n\n", []string{"\n\n", "\n\n"}, 22},
		{"1 1874  \n1 1842 \x00\n1 2097 \xff\n", []string{" ", "\x00", "\xff"}, 27},
		{"4 0 eofx\n4 65520 eofw\n4 1 eofy\n", []string{"eofx", "eofw", "eofy"}, 31},
		// A text that looks like a frame is a text; what it holds is not read for itself.
		{"5 29928 0 7 \n\n", []string{"0 7 \n"}, 14},
		{"11 61545 2 51409 ab\n\n0 7 \n", []string{"2 51409 ab\n", ""}, 26},
		{"11 61546 2 51409 ab\n\n0 7 \n", nil, 0},
		{"11 61545 2 51409 ab\n", nil, 0},
		// Bytes that are no frame, alone and behind frames; behind them nothing is read.
		{"\n", nil, 0}, {" ", nil, 0}, {"x", nil, 0}, {"0", nil, 0}, {"  ", nil, 0}, {"   \n", nil, 0}, {"close\n", nil, 0},
		{"\n0 7 \n", nil, 0}, {" 0 7 \n", nil, 0}, {"x0 7 \n", nil, 0}, {"\xef\xbb\xbf0 7 \n", nil, 0},
		{"0 7 \n\n", []string{""}, 5}, {"0 7 \n ", []string{""}, 5}, {"0 7 \nx", []string{""}, 5}, {"0 7 \n0", []string{""}, 5}, {"0 7 \n\x00\x00\x00", []string{""}, 5},
		{"0 7 \n\n0 7 \n", []string{""}, 5}, {"0 7 \n2 1 ab\n0 7 \n", []string{""}, 5}, {"0 7 \nclose\n0 7 \n", []string{""}, 5},
	} {
		texts, size := impl.LogRead(c.all)
		if !slices.Equal(texts, c.texts) || size != c.size {
			t.Errorf("case %d: LogRead(%q) is %q and %d", i, c.all, texts, size)
		}
		checkLog(t, c.all)
	}
}

// P22, of each text alone, and behind and ahead of others.
func TestALogIsItsTexts(t *testing.T) {
	for _, text := range loggedTexts() {
		for _, texts := range [][]string{{text}, {text, text}, {"", text, ""}, {text, "\n", text}, {"close", text, "2 51409 ab\n"}} {
			all := ""
			for _, one := range texts {
				all += impl.LogFrame(one)
			}
			expectLog(t, all, texts, len(all))
		}
	}
}

// P22, of logs of several counts of frames.
func TestLogsOfManyFrames(t *testing.T) {
	for _, count := range []int{0, 1, 2, 3, 10, 99, 100, 101, 400, 401, 1000, 5000} {
		texts := textsFrom(count)
		expectLog(t, logOf(texts), texts, len(logOf(texts)))
	}
	r := rand.New(rand.NewSource(22))
	short := shortTexts()
	for range 2000 {
		var texts []string
		for range r.Intn(30) {
			texts = append(texts, short[r.Intn(len(short))], drawBytes(r, "0127 \n\x00\xffab", 40))
		}
		all := logOf(texts)
		expectLog(t, all, texts, len(all))
	}
}

// expectCuts holds P22 of each beginning of a log: those texts are told that are wholly there.
func expectCuts(t *testing.T, texts []string) {
	t.Helper()
	all := logOf(texts)
	there, whole := 0, 0
	for cut := range len(all) + 1 {
		if there < len(texts) && cut == whole+len(frameOf(texts[there])) {
			whole = cut
			there++
		}
		expectLog(t, all[:cut], texts[:there], whole)
	}
	if there != len(texts) {
		t.Fatalf("of %d texts %d were there in the end", len(texts), there)
	}
}

// P22, of logs that are cut at each of their bytes.
func TestLogsThatAreCut(t *testing.T) {
	expectCuts(t, nil)
	for _, text := range loggedTexts() {
		expectCuts(t, []string{text})
	}
	expectCuts(t, shortTexts())
	expectCuts(t, []string{"", "", "", ""})
	expectCuts(t, []string{"\n", "\n\n", "\n\n\n", "", "\n"})
	expectCuts(t, []string{"0 7 \n", "2 51409 ab\n", "11 61545 2 51409 ab\n\n"})
	expectCuts(t, []string{"close", strings.Repeat("0 7 \n", 200), "", strings.Repeat("\n", longestText)})
	r := rand.New(rand.NewSource(99))
	for range 100 {
		texts := make([]string, r.Intn(8))
		for i := range texts {
			texts[i] = drawBytes(r, "0127 \n\x00\xffab", 30)
		}
		expectCuts(t, texts)
	}
}

// A beginning of a log with anything behind it that makes up no frame tells what that beginning tells.
func TestBytesBehindTheLastWholeFrame(t *testing.T) {
	texts := []string{"use e1 gb 4", "a\nb", ""}
	all := logOf(texts)
	for b := range 256 {
		one := string([]byte{byte(b)})
		for _, tail := range []string{one, one + one, one + "\n", "\n" + one, one + " ", " " + one, "0" + one, "0 7" + one} {
			checkLog(t, all+tail)
			checkLog(t, all+tail+all)
			if got, size := impl.LogRead(all + tail); !slices.Equal(got, texts) || size != len(all) {
				t.Fatalf("with %q behind them frames are read as %q and %d", tail, got, size)
			}
		}
	}
	for cut := range len(all) {
		checkLog(t, all[:cut]+all)
		checkLog(t, all+all[:cut]+all)
		checkLog(t, all[cut:])
		checkLog(t, all[:cut]+all[cut+1:])
	}
}

// logOfSize is texts whose frames have just so many bytes together.
func logOfSize(t *testing.T, size int) []string {
	t.Helper()
	var texts []string
	left := size
	for left > 2200 {
		text := strings.Repeat("x\n\x00\xff ", 200)
		texts = append(texts, text)
		left -= len(frameOf(text))
	}
	for first := range longestText + 1 {
		for second := max(0, left-first-30); second <= min(longestText, left-first); second++ {
			a, b := strings.Repeat("y", first), strings.Repeat("z", second)
			if len(frameOf(a))+len(frameOf(b)) == left {
				return append(texts, a, b)
			}
		}
	}
	t.Fatalf("no log of %d bytes was found", size)
	return nil
}

func TestLogsAtTheBound(t *testing.T) {
	for _, size := range []int{40000, longestLog - 2, longestLog - 1, longestLog} {
		texts := logOfSize(t, size)
		all := logOf(texts)
		if len(all) != size {
			t.Fatal("a log has", len(all), "bytes, not", size)
		}
		expectLog(t, all, texts, size)
		last := len(texts) - 1
		whole := size - len(frameOf(texts[last]))
		expectLog(t, all[:size-1], texts[:last], whole)
		expectLog(t, all[:size-1]+"x", texts[:last], whole)
	}
	texts := logOfSize(t, longestLog)
	all := logOf(texts)
	for _, more := range []string{"x", "\n", "0", "\x00", "0 7 \n", "2 51409 ab\n", all} {
		expectLog(t, all+more, nil, 0)
	}
	for _, size := range []int{longestLog + 1, longestLog + 2, longestLog + 100, 2 * longestLog} {
		expectLog(t, logOf(logOfSize(t, size)), nil, 0)
	}
	// What is too long is refused whole, be its frames few or none; at the bound it is not.
	for _, room := range []int{longestLog - 16, longestLog - 15} {
		for _, fill := range []string{"\x00", "x", " ", "\n", "9"} {
			log := logOf([]string{"", "ab"}) + strings.Repeat(fill, room)
			if len(log) > longestLog {
				expectLog(t, log, nil, 0)
			} else {
				expectLog(t, log, []string{"", "ab"}, 16)
			}
		}
	}
	empty := strings.Repeat("0 7 \n", longestLog/5)
	expectLog(t, empty, make([]string, longestLog/5), longestLog)
	expectLog(t, empty+"0 7 \n", nil, 0)
	for _, fill := range []string{"\x00", "x", " ", "\n", "9", "0 ", "1000 "} {
		expectLog(t, strings.Repeat(fill, longestLog)[:longestLog], nil, 0)
		expectLog(t, strings.Repeat(fill, longestLog+1)[:longestLog+1], nil, 0)
	}
}

// A sum that is wrong makes a frame none, whichever it is.
func TestSumsThatAreWrong(t *testing.T) {
	for _, text := range []string{"", "a", "eofx", "eofw", "a\nb", "close"} {
		count, right := strconv.Itoa(len(text)), sumTruth(text)
		for sum := range 2*lastSum + 20 {
			log := framed(count, strconv.Itoa(sum), text)
			texts, size := impl.LogRead(log)
			if sum == right && (!slices.Equal(texts, []string{text}) || size != len(log)) || sum != right && (len(texts) != 0 || size != 0) {
				t.Fatalf("LogRead(%q) is %q and %d", log, texts, size)
			}
		}
	}
	for _, text := range loggedTexts() {
		count, right := strconv.Itoa(len(text)), sumTruth(text)
		for _, off := range []int{1, -1, 7, 256, -256, lastSum, lastSum + 1, -lastSum - 1, 1 << 16, 1 << 32, -1 << 32, 2*lastSum + 2} {
			expectNoFrame(t, framed(count, strconv.Itoa(right+off), text))
		}
	}
}

// A number of bytes that is too small or too great makes a frame none, be there bytes for it or not.
func TestCountsThatAreWrong(t *testing.T) {
	for _, text := range loggedTexts() {
		sum := strconv.Itoa(sumTruth(text))
		for _, off := range []int{1, -1, 2, -2, 5, 6, 9, 10, 100, 256, 1000, -len(text), 1 << 32, -1 << 32} {
			if off == 0 {
				continue
			}
			log := framed(strconv.Itoa(len(text)+off), sum, text)
			expectNoFrame(t, log)
			checkLog(t, log+strings.Repeat("\n", 300))
			checkLog(t, log+logOf([]string{"", text, ""}))
		}
	}
	// Here the sum is that of as many bytes as are named, but no newline stands behind them.
	for _, text := range loggedTexts() {
		sum := strconv.Itoa(sumTruth(text))
		for _, more := range []string{"a", "\n", "\x00", " ", "0 7 "} {
			log := framed(strconv.Itoa(len(text)), sum, text+more)
			checkLog(t, log)
			if more[0] != '\n' {
				expectNoFrame(t, log)
			}
		}
		if size := len(text); size > 0 {
			expectNoFrame(t, framed(strconv.Itoa(size), sum, text[:size-1]))
			expectNoFrame(t, framed(strconv.Itoa(size), strconv.Itoa(sumTruth(text[:size-1])), text[:size-1]))
		}
	}
}

// No newline at the end, or another byte in its place, makes a frame none.
func TestFramesWithoutTheirNewline(t *testing.T) {
	for _, text := range loggedTexts() {
		frame := frameOf(text)
		short := frame[:len(frame)-1]
		expectLog(t, short, nil, 0)
		checkLog(t, short+frame)
		for b := range 256 {
			if b != '\n' {
				expectNoFrame(t, short+string([]byte{byte(b)}))
			}
		}
		expectNoFrame(t, short+"\r\n")
		expectNoFrame(t, short+" \n")
		expectNoFrame(t, frameOf("a")[1:]+frame)
	}
}

// oddly is a number in writings of which none is the one in decimals that LogFrame has.
func oddly(n int) []string {
	plain := strconv.Itoa(n)
	odd := []string{"", "0" + plain, "00" + plain, strings.Repeat("0", 30) + plain, "+" + plain, "-" + plain, "--" + plain, " " + plain, plain + " ", "\t" + plain, plain + "\t", plain + "\n", "\n" + plain, plain + "\x00", "\x00" + plain, plain + "0", plain + ".", plain + ".0", plain + "e0", plain + "_", "0_" + plain, "0x" + strconv.FormatInt(int64(n), 16), "0b" + strconv.FormatInt(int64(n), 2), "0o" + strconv.FormatInt(int64(n), 8), strconv.FormatInt(int64(n), 16) + "h", plain + "x", "x" + plain, "x", "-", "+", "'" + plain, "\uff10" + plain, plain + "\u0660"}
	// Numbers that are this one only where the highest bits are lost, or the remainder is taken.
	for _, wrapped := range []string{"256", "65536", "4294967296", "18446744073709551616", "9223372036854775808", "-18446744073709551616", "340282366920938463463374607431768211456", "65521", "-65521"} {
		odd = append(odd, sumOfDecimals(wrapped, n))
	}
	for _, great := range []string{"1001", "65521", "99999", "100000", "100001", "999999999", "2147483648", "4294967295", "9223372036854775807", "9223372036854775808", "18446744073709551615", "99999999999999999999", strings.Repeat("9", 100), strings.Repeat("9", 1000)} {
		odd = append(odd, great, "-"+great)
	}
	return odd
}

// sumOfDecimals is a great number in decimals and n more.
func sumOfDecimals(great string, n int) string {
	sum, _ := new(big.Int).SetString(great, 10)
	return sum.Add(sum, wide(n)).String()
}

// Numbers that are not in decimals as LogFrame writes them make a frame none.
func TestNumbersThatAreWrittenOddly(t *testing.T) {
	for _, text := range []string{"", "a", "ab", "\n", "close", "eofx", "eofy", "eofw", "cthf", "0 7 \n", "a\nb\n", strings.Repeat("x", 10), strings.Repeat("\n", 99), strings.Repeat("y", 256), strings.Repeat("0", longestText)} {
		size, sum := len(text), sumTruth(text)
		for _, count := range oddly(size) {
			expectNoFrame(t, framed(count, strconv.Itoa(sum), text))
		}
		for _, odd := range oddly(sum) {
			expectNoFrame(t, framed(strconv.Itoa(size), odd, text))
			expectNoFrame(t, framed("0"+strconv.Itoa(size), odd, text))
		}
		expectNoFrame(t, strconv.Itoa(size)+strconv.Itoa(sum)+" "+text+"\n")
		expectNoFrame(t, strconv.Itoa(size)+" "+strconv.Itoa(sum)+text+"\n")
		expectNoFrame(t, strconv.Itoa(size)+"\n"+strconv.Itoa(sum)+"\n"+text+"\n")
		expectNoFrame(t, strconv.Itoa(size)+"\t"+strconv.Itoa(sum)+"\t"+text+"\n")
	}
	for _, none := range []string{"+0 7 \n", "-0 7 \n", "00 7 \n", " 7 \n", "0  \n", "0 07 \n", "0 +7 \n", "0 -7 \n", "-1 7 \n", "0 65528 \n", "0 18446744073709551623 \n", "18446744073709551616 7 \n", "-18446744073709551616 7 \n", "4294967296 7 \n", "1000 7 \n", "9223372036854775807 7 \n", "-9223372036854775808 7 \n"} {
		expectNoFrame(t, none)
	}
}

// What is written as the frame of a text that is too long is none.
func TestFramesOfTextsThatAreTooLong(t *testing.T) {
	for _, size := range []int{longestText + 1, longestText + 2, 1010, 1256, 2000, 9999, 10000, 1<<16 + 2, longestLog - 100} {
		for _, unit := range []string{"a", "\n", "\x00", "0 7 \n"} {
			text := strings.Repeat(unit, size)[:size]
			all := logOf([]string{"ab", "", text, "ab"})
			if len(all) > longestLog {
				t.Fatal("a log is too long to tell anything:", len(all))
			}
			expectLog(t, all, []string{"ab", ""}, 16)
			expectLog(t, frameOf(text), nil, 0)
			checkLog(t, frameOf(text)+"0 7 \n")
		}
	}
}

// A frame in which one byte is another one is none: its sum shows it, wherever the byte stands.
func TestFramesInWhichOneByteIsAnother(t *testing.T) {
	for _, text := range []string{"", "a", "ab", "\n", "\x00\xff", "close", "use e1 calls 1250", "a\nb\nc", "0 7 \n", "2 51409 ab\n"} {
		frame := frameOf(text)
		for place := range len(frame) {
			for b := range 256 {
				other := []byte(frame)
				other[place] = byte(b)
				log := frameOf("x") + string(other) + frameOf("y")
				checkLog(t, log)
				if texts, _ := impl.LogRead(log); (len(texts) == 3) != (byte(b) == frame[place]) || len(texts) == 2 {
					t.Fatalf("LogRead(%q) is %q", log, texts)
				}
			}
		}
	}
	long := strings.Repeat("usage of one period\n", 50)
	frame := frameOf(long)
	for _, place := range []int{0, 3, 4, 5, 9, 10, 11, 510, len(frame) - 3, len(frame) - 2, len(frame) - 1} {
		for b := range 256 {
			if byte(b) != frame[place] {
				expectNoFrame(t, frame[:place]+string([]byte{byte(b)})+frame[place+1:])
			}
		}
	}
}

// Whatever stands in a log, what is read is the longest beginning that is frames, and is written again as it was.
func TestDrawnLogs(t *testing.T) {
	r := rand.New(rand.NewSource(2209))
	whole, broken := 0, 0
	for range 20000 {
		var all string
		for range r.Intn(6) {
			frame := frameOf(drawBytes(r, "0127 \n\x00\xffab", 12))
			switch r.Intn(12) {
			case 0:
				frame = frame[:r.Intn(len(frame))]
			case 1:
				place := r.Intn(len(frame))
				frame = frame[:place] + drawBytes(r, "0127 \n\x00\xffab", 2) + frame[place+1:]
			case 2:
				frame += drawBytes(r, "0127 \n\x00\xffab", 3)
			}
			all += frame
		}
		checkLog(t, all)
		texts, size := impl.LogRead(all)
		if logOf(texts) != all[:size] {
			t.Fatalf("P22: LogRead(%q) is %q and %d, which is written as %q", all, texts, size, logOf(texts))
		}
		if size == len(all) {
			whole++
		} else if size > 0 {
			broken++
		}
	}
	if whole < 2000 || broken < 2000 {
		t.Error("what was drawn is too plain:", whole, broken)
	}
	for range 20000 {
		checkLog(t, drawBytes(r, "0017  \n", 12))
	}
}
