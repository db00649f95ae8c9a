package tests

import (
	"fmt"
	"slices"
	"strconv"
	"strings"
	"testing"

	"loop.example/s03048/impl"
)

// someHead has the two lines that every script begins with.
const someHead = "width 8\ncap 500\n"

// wantBad asks for a code other than 0, with the zero Script beside it and as all that Run shows.
func wantBad(t *testing.T, what string, text string, code int) {
	t.Helper()
	s, got := wantParse(t, what, text)
	if got != code || s.Width != 0 || s.Cap != 0 || len(s.Ops) != 0 {
		t.Errorf("%s, %.100q: code %d, %s, want code %d", what, text, got, shownScript(s), code)
	}
	if shown := impl.Run(text); shown != "bad "+strconv.Itoa(code)+"\n" {
		t.Errorf("%s, %.100q: %.100q, want code %d", what, text, shown, code)
	}
}

// wantGood asks for these operations behind the head.
func wantGood(t *testing.T, what string, lines string, ops ...impl.Op) {
	t.Helper()
	want := impl.Script{Width: 8, Cap: 500, Ops: ops}
	if s, code := wantParse(t, what, someHead+lines); code != 0 || !sameScript(s, want) {
		t.Errorf("%s, %.100q: code %d, %s, want %s", what, lines, code, shownScript(s), shownScript(want))
	}
}

// someLines has one line for each kind, with the operation that it is, by its kind.
func someLines() ([]string, []impl.Op) {
	ops := asIs()
	lines := make([]string, len(ops))
	for kind := impl.OpOpen; kind <= impl.OpFuel; kind++ {
		lines[kind] = lineFor(ops[kind])
	}
	return lines, ops
}

func TestEachKindOfLine(t *testing.T) {
	for line, op := range map[string]impl.Op{
		"open":              {Kind: 1},
		"put key value":     {Kind: 2, Key: "key", Val: "value"},
		"put key _":         {Kind: 2, Key: "key"},
		"put _ value":       {Kind: 2, Val: "value"},
		"put _ _":           {Kind: 2},
		"put 1 -1":          {Kind: 2, Key: "1", Val: "-1"},
		"put put put":       {Kind: 2, Key: "put", Val: "put"},
		"del key":           {Kind: 3, Key: "key"},
		"del _":             {Kind: 3},
		"get key":           {Kind: 4, Key: "key"},
		"get _":             {Kind: 4},
		"range lo hi":       {Kind: 5, Key: "lo", Val: "hi"},
		"range _ hi":        {Kind: 5, Val: "hi"},
		"range lo _":        {Kind: 5, Key: "lo"},
		"range _ _":         {Kind: 5},
		"commit":            {Kind: 6},
		"checkout 3":        {Kind: 7, N: 3},
		"checkout -1":       {Kind: 7, N: -1},
		"checkout 0":        {Kind: 7},
		"versions":          {Kind: 8},
		"prove 3 lo hi":     {Kind: 9, N: 3, Key: "lo", Val: "hi"},
		"prove -1 _ hi":     {Kind: 9, N: -1, Val: "hi"},
		"prove 0 lo _":      {Kind: 9, Key: "lo"},
		"prove 1 2 3":       {Kind: 9, N: 1, Key: "2", Val: "3"},
		"diff 1 2":          {Kind: 10, N: 1, M: 2},
		"diff 2 1":          {Kind: 10, N: 2, M: 1},
		"diff -1 0":         {Kind: 10, N: -1},
		"diff 0 -1":         {Kind: 10, M: -1},
		"close":             {Kind: 11},
		"crash":             {Kind: 12},
		"crash 0":           {Kind: 12, Picks: []int{0}},
		"crash -1":          {Kind: 12, Picks: []int{-1}},
		"crash 64 0 -1 7 7": {Kind: 12, Picks: []int{64, 0, -1, 7, 7}},
		"fuel 5":            {Kind: 13, N: 5},
		"fuel -1":           {Kind: 13, N: -1},
		"fuel 0":            {Kind: 13},
	} {
		wantGood(t, "a line", line, op)
		wantGood(t, "a line with its newline", line+"\n", op)
		wantGood(t, "two lines", line+"\n"+line, op, op)
		wantGood(t, "between others", "open\n"+line+"\nclose\n", openOp(), op, closeOp())
	}
}

func TestManyPicks(t *testing.T) {
	for _, count := range []int{2, 100, 20000, 20001, 27000} {
		picks := make([]int, count)
		for i := range picks {
			picks[i] = i%11 - 1
		}
		wantGood(t, strconv.Itoa(count)+" picks", numbersLine("crash", picks...), crashOp(picks...))
	}
}

// Whether an operation is as described in chapter 6 is not looked at.
func TestLinesOfOperationsThatAreBad(t *testing.T) {
	long, great := strings.Repeat("k", 257), strings.Repeat("v", 2001)
	lines := []string{"put _ v", "put " + long + " v", "put k " + great, "get _", "get " + long, "del _", "del " + great}
	ops := []impl.Op{putOp("", "v"), putOp(long, "v"), putOp("k", great), getOp(""), getOp(long), delOp(""), delOp(great)}
	wantGood(t, "bad operations", strings.Join(lines, "\n"), ops...)
	o := wantRun(t, "bad operations", someHead+"open\n"+strings.Join(append(lines, numbersLine("crash", make([]int, 20001)...)), "\n"))
	for i, a := range o.Answers[1:] {
		if a.Code != impl.StoreBad {
			t.Errorf("line %d: code %d", i, a.Code)
		}
	}
}

func TestLinesAreCutAtEveryNewline(t *testing.T) {
	wantBad(t, "nothing", "", 2)
	wantBad(t, "one newline", "\n", 2)
	wantBad(t, "two newlines", "\n\n", 2)
	wantBad(t, "three newlines", "\n\n\n", 2)
	wantBad(t, "a newline first", "\n"+someHead, 2)
	wantBad(t, "a newline between the heads", "width 8\n\ncap 500\n", 3)
	wantBad(t, "a newline behind the heads", someHead+"\n", 4)
	wantBad(t, "two newlines behind the heads", someHead+"\n\n", 4)
	wantBad(t, "a newline before a line", someHead+"\nopen\n", 4)
	wantBad(t, "a newline between lines", someHead+"open\n\nclose\n", 5)
	wantBad(t, "two newlines at the end", someHead+"open\n\n", 5)
	wantBad(t, "three newlines at the end", someHead+"open\n\n\n", 5)
	wantBad(t, "two newlines at the end of two lines", someHead+"open\nclose\n\n", 6)
	wantGood(t, "no further line", "")
	wantGood(t, "one line", "open", openOp())
	wantGood(t, "one line and its newline", "open\n", openOp())
	wantGood(t, "two lines", "open\nclose", openOp(), closeOp())
	wantGood(t, "two lines and the newline", "open\nclose\n", openOp(), closeOp())
	if s, code := wantParse(t, "heads without the newline", "width 8\ncap 500"); code != 0 || !sameScript(s, impl.Script{Width: 8, Cap: 500}) {
		t.Errorf("code %d, %s", code, shownScript(s))
	}
}

func TestCarriageReturnsAndOtherSpaces(t *testing.T) {
	lines, _ := someLines()
	for _, odd := range []string{"\r", "\t", "\v", "\f", "\x00", "\u00a0", "\u2028", "\ufeff"} {
		wantBad(t, "width", "width 8"+odd+"\ncap 500\n", 2)
		wantBad(t, "width", odd+"width 8\ncap 500\n", 2)
		wantBad(t, "width", "width"+odd+"8\ncap 500\n", 2)
		wantBad(t, "cap", "width 8\ncap 500"+odd, 3)
		wantBad(t, "cap", "width 8\ncap"+odd+"500\n", 3)
		wantBad(t, "alone", someHead+odd, 4)
		wantBad(t, "alone, behind a line", someHead+"open\n"+odd+"\n", 5)
		for _, line := range lines[1:] {
			wantBad(t, "behind", someHead+line+odd+"\n", 4)
			wantBad(t, "behind, without the newline", someHead+line+odd, 4)
			wantBad(t, "before", someHead+odd+line, 4)
			if strings.Contains(line, " ") {
				wantBad(t, "between", someHead+strings.ReplaceAll(line, " ", odd), 4)
			}
		}
	}
}

func TestPartsAreDividedBySingleSpaces(t *testing.T) {
	lines, _ := someLines()
	for place, line := range append([]string{"width 8", "cap 500"}, lines[1:]...) {
		text, code := func(line string) string { return someHead + line }, 4
		switch place {
		case 0:
			text, code = func(line string) string { return line + "\ncap 500\n" }, 2
		case 1:
			text, code = func(line string) string { return "width 8\n" + line }, 3
		}
		wantBad(t, "a space first", text(" "+line), code)
		wantBad(t, "a space last", text(line+" "), code)
		wantBad(t, "two spaces last", text(line+"  "), code)
		for at := range line {
			if line[at] == ' ' {
				wantBad(t, "two spaces", text(line[:at]+" "+line[at:]), code)
			}
		}
		if strings.Contains(line, " ") {
			wantBad(t, "no space behind the first word", text(strings.Replace(line, " ", "", 1)), code)
		}
	}
	for _, line := range []string{" ", "  ", "crash ", "crash  ", "crash  1", "crash 1  2", "open ", "get  ", "put  ", "put   ", "put a  b"} {
		wantBad(t, "spaces", someHead+line, 4)
	}
}

func TestLinesWithTooFewOrTooManyParts(t *testing.T) {
	lines, _ := someLines()
	for kind, line := range lines {
		parts := strings.Split(line, " ")
		for count := 1; count < len(parts); count++ {
			if kind != impl.OpCrash {
				wantBad(t, "too few", someHead+strings.Join(parts[:count], " "), 4)
			}
		}
		if kind == 0 {
			continue
		}
		for _, more := range []string{" a", " _", " a b", " 1 a", " open"} {
			wantBad(t, "too many", someHead+line+more, 4)
		}
		for _, more := range []string{" 1", " -1", " 1 1"} {
			if kind != impl.OpCrash {
				wantBad(t, "too many", someHead+line+more, 4)
			}
		}
	}
	for line, code := range map[string]int{"width\ncap 500": 2, "width 8 8\ncap 500": 2, "width 8\ncap": 3, "width 8\ncap 500 500": 3, "width 8 cap 500": 2} {
		wantBad(t, "heads", line, code)
	}
}

func TestFirstWordsThatAreNone(t *testing.T) {
	lines, _ := someLines()
	for _, word := range []string{"", "_", "look", "width", "cap", "ops", "1", "-1", "op", "#", "//"} {
		for _, behind := range []string{"", " 8", " a", " a b", " 1 a b", " 1 1"} {
			wantBad(t, "an unknown word", someHead+word+behind+"\n", 4)
		}
	}
	for _, line := range lines[1:] {
		word := strings.Fields(line)[0]
		for _, other := range []string{strings.ToUpper(word), strings.ToUpper(word[:1]) + word[1:], word[1:], word[:len(word)-1], word + "s", word + "_", "_" + word, word + ":", "\"" + word + "\""} {
			wantBad(t, "nearly a word", someHead+other+line[len(word):], 4)
			wantBad(t, "nearly a word, behind a line", someHead+"open\n"+other+line[len(word):], 5)
		}
	}
}

// numberPlaces are scripts with a hole for a number, by the number of the line that has it.
func numberPlaces() map[string]int {
	return map[string]int{
		"width %s\ncap 500\nopen\n":        0,
		"width 8\ncap %s\nopen\n":          1,
		someHead + "checkout %s\n":         2,
		someHead + "fuel %s":               2,
		someHead + "open\nprove %s a b":    3,
		someHead + "diff %s 1":             2,
		someHead + "diff 1 %s\nopen\n":     2,
		someHead + "crash %s\n":            2,
		someHead + "crash %s 1":            2,
		someHead + "crash 1 %s":            2,
		someHead + "open\ncrash 1 %s 1\n":  3,
		someHead + "crash 1 2 3 4 5 6 %s":  2,
		someHead + "close\nclose\nfuel %s": 4,
	}
}

// numberAt is the number that a script has at the hole.
func numberAt(s impl.Script, form string) int {
	op := impl.Op{}
	if len(s.Ops) > 0 {
		op = s.Ops[len(s.Ops)-1]
	}
	switch {
	case strings.HasPrefix(form, "width %s"):
		return s.Width
	case strings.Contains(form, "cap %s"):
		return s.Cap
	case strings.Contains(form, "diff 1 %s"):
		return s.Ops[0].M
	case strings.Contains(form, "crash"):
		return op.Picks[strings.Count(form[strings.Index(form, "crash"):strings.Index(form, "%s")], " ")-1]
	}
	return op.N
}

func TestNumbers(t *testing.T) {
	for form, line := range numberPlaces() {
		for _, n := range []int{0, -1, 1, 2, 9, 10, 31, 32, 33, 64, 99, 100, 1048575, 1048576, 1048577, 12345678, 90000000, 99999998, 99999999} {
			text := fmt.Sprintf(form, strconv.Itoa(n))
			if line == 0 && (n < 1 || n > 32) || line == 1 && (n < 0 || n > 1048576) {
				wantBad(t, "a number out of bounds", text, 2+line)
				continue
			}
			if s, code := wantParse(t, "a number", text); code != 0 || numberAt(s, form) != n {
				t.Errorf("%q: code %d, %s", text, code, shownScript(s))
			}
		}
	}
}

func TestNumbersThatAreNone(t *testing.T) {
	for form, line := range numberPlaces() {
		for _, part := range []string{"", "100000000", "123456789", "999999999", "00", "01", "08", "032", "000", "00000001", "000000001", "+1", "+0", "+8", "-0", "-2", "-8", "-01", "-10", "-11", "--1", "-", "+", "+-1",
			"-99999999", "-100000000", "1-", "1+", "1.0", "1.", ".1", "1e1", "1E1", "0x1", "0b1", "0o1", "1_0", "1,0", "_", "_1", "1_", "a", "1a", "a1", "ten", "NaN", "Inf",
			"2147483648", "4294967304", "9223372036854775807", "9223372036854775808", "-9223372036854775808", "18446744073709551615", "18446744073709551616", "18446744073709551624", strings.Repeat("9", 200), strings.Repeat("0", 200) + "8",
			"\uff18", "\u0668", "8\x00", "\x008", "8\t", "8\r", "\xff", "\x80"} {
			wantBad(t, "no number", fmt.Sprintf(form, part), 2+line)
		}
	}
}

func TestEveryWidth(t *testing.T) {
	for w := -1; w <= 300; w++ {
		text := headFor(w, 500) + "open"
		if w < 1 || w > 32 {
			wantBad(t, "no width", text, 2)
			continue
		}
		if s, code := wantParse(t, "a width", text); code != 0 || !sameScript(s, impl.Script{Width: w, Cap: 500, Ops: []impl.Op{openOp()}}) {
			t.Errorf("width %d: code %d, %s", w, code, shownScript(s))
		}
		wantRun(t, "a width", text+"\nput a b\ncommit\nversions\nprove 1 _ _")
	}
	for _, w := range noWidths() {
		wantBad(t, "no width", headFor(w, 500), 2)
	}
}

func TestEveryCap(t *testing.T) {
	for _, room := range []int{0, 1, 63, 64, 65, 1048575, 1048576} {
		text := headFor(8, room)
		if s, code := wantParse(t, "a cap", text); code != 0 || !sameScript(s, impl.Script{Width: 8, Cap: room}) {
			t.Errorf("cap %d: code %d, %s", room, code, shownScript(s))
		}
		o := wantRun(t, "a cap", text+"open\ncommit\ncommit")
		for i, a := range o.Answers[1:] {
			if fits := room >= 64*(i+1); fits != (a.Code == impl.StoreOk) {
				t.Errorf("cap %d: commit %d has code %d", room, i+1, a.Code)
			}
		}
	}
	for _, room := range []int{-1, -2, 1048577, 1048578, 2097152, 10485760, 99999999, 100000000} {
		wantBad(t, "no cap", headFor(8, room), 3)
	}
}

func TestHeadsThatAreMissingOrInTheWrongOrder(t *testing.T) {
	for text, code := range map[string]int{
		"width 8":                          3,
		"width 8\n":                        3,
		"width 8\nopen\n":                  3,
		"width 8\nwidth 8\ncap 500\n":      3,
		"cap 500":                          2,
		"cap 500\n":                        2,
		"cap 500\nwidth 8\n":               2,
		"cap 500\nwidth 8\nopen\n":         2,
		"open\n":                           2,
		"open\nwidth 8\ncap 500\n":         2,
		"width 8\nopen\ncap 500\n":         3,
		someHead + "width 8\n":             4,
		someHead + "cap 500\n":             4,
		someHead + "open\ncap 500\n":       5,
		someHead + "open\nwidth 8\n":       5,
		someHead + someHead:                4,
		"Width 8\ncap 500\n":               2,
		"WIDTH 8\ncap 500\n":               2,
		"width 8\nCap 500\n":               3,
		"width 8\nCAP 500\n":               3,
		"width\n8\ncap\n500\n":             2,
		"width 33\ncap -1\nlook\n":         2,
		"width 8\ncap -1\nlook\n":          3,
		"width 33":                         2,
		"width 8 \ncap 500\n":              2,
		"width w\ncap c\n":                 2,
		"width 8\ncap c\n":                 3,
		"width 32\ncap 1048576\nfuel -2\n": 4,
	} {
		wantBad(t, "heads", text, code)
	}
}

// wordPlaces are lines with a hole for a word, and the operation with that word's meaning.
func wordPlaces() map[string]func(string) impl.Op {
	return map[string]func(string) impl.Op{
		"put %s v":     func(word string) impl.Op { return putOp(word, "v") },
		"put k %s":     func(word string) impl.Op { return putOp("k", word) },
		"del %s":       delOp,
		"get %s":       getOp,
		"range %s v":   func(word string) impl.Op { return rangeOp(word, "v") },
		"range k %s":   func(word string) impl.Op { return rangeOp("k", word) },
		"prove 7 %s v": func(word string) impl.Op { return proveOp(7, word, "v") },
		"prove 7 k %s": func(word string) impl.Op { return proveOp(7, "k", word) },
	}
}

func TestWords(t *testing.T) {
	words := []string{"__", "___", "_a", "a_", "_1", "-", "--", "-1", "01", "+1", "0", "99999999", "100000000", "=", ">", ":", "!", "~", "'", "\"a\"", "open", "put", "!~", "%s", "\\n", "\\x00", "#", strings.Repeat("w", 5000)}
	for b := 33; b <= 126; b++ {
		words = append(words, string([]byte{'a', byte(b)}), string([]byte{byte(b), 'a'}), string([]byte{'a', byte(b), 'b'}))
		if b != '_' {
			words = append(words, string([]byte{byte(b)}))
		}
	}
	for form, op := range wordPlaces() {
		wantGood(t, "the empty text", fmt.Sprintf(form, "_"), op(""))
		for _, word := range words {
			wantGood(t, "a word", fmt.Sprintf(form, word), op(word))
		}
	}
}

func TestWordsThatAreNone(t *testing.T) {
	for form := range wordPlaces() {
		wantBad(t, "nothing", someHead+fmt.Sprintf(form, ""), 4)
		for b := range 256 {
			if b >= 33 && b <= 126 || b == '\n' {
				continue
			}
			odd := string([]byte{byte(b)})
			for _, word := range []string{odd, "a" + odd, odd + "a", "a" + odd + "b", "_" + odd, odd + odd} {
				wantBad(t, "byte "+strconv.Itoa(b), someHead+fmt.Sprintf(form, word), 4)
				wantBad(t, "byte "+strconv.Itoa(b), someHead+"open\n"+fmt.Sprintf(form, word)+"\nlook\n", 5)
			}
		}
		for _, word := range []string{"\n", "\na", "ü", "a\u00a0b", "日本", "\u200b"} {
			wantBad(t, "no word", someHead+fmt.Sprintf(form, word), 4)
		}
	}
	wantBad(t, "a word that a newline cuts", someHead+"get a\nb", 5)
}

// fillTo makes a script of a size, all of whose lines are as described.
func fillTo(size int) string {
	text := someHead + "open\nget "
	return text + strings.Repeat("k", size-len(text))
}

func TestTextsThatAreTooLong(t *testing.T) {
	for _, size := range []int{100, 59999, 60000} {
		for _, text := range []string{fillTo(size), fillTo(size-1) + "\n", fillTo(size-6) + "\nclose"} {
			if s, code := wantParse(t, strconv.Itoa(size), text); len(text) != size || code != 0 || len(s.Ops) < 2 {
				t.Errorf("%d bytes: code %d, %s", size, code, shownScript(s))
			}
			wantRun(t, strconv.Itoa(size), text)
		}
		wantBad(t, "a long text of no lines", strings.Repeat("x", size), 2)
		wantBad(t, "a long text of newlines", strings.Repeat("\n", size), 2)
		wantBad(t, "a long text of spaces", strings.Repeat(" ", size), 2)
	}
	for _, size := range []int{60001, 60002, 65536, 120000, 1 << 20} {
		wantBad(t, "one line", fillTo(size), 1)
		wantBad(t, "with its newline", fillTo(size-1)+"\n", 1)
		wantBad(t, "of no lines", strings.Repeat("x", size), 1)
		wantBad(t, "of newlines", strings.Repeat("\n", size), 1)
		wantBad(t, "of zeros", zeros(size), 1)
		wantBad(t, "of too many lines", fillTo(size-7*1000)+strings.Repeat("\ncommit", 1000), 1)
		wantBad(t, "of a bad line", fillTo(size-5)+"\nlook", 1)
	}
}

func TestABadLineAtEachPlace(t *testing.T) {
	good := append([]string{"width 8", "cap 500"}, slices.Repeat([]string{"close"}, 1000)...)
	bad := []string{"look", "", "fuel 01", "open 1"}
	for place := range good {
		lines := slices.Clone(good)
		lines[place] = bad[place%len(bad)]
		wantBad(t, "one bad line", strings.Join(lines, "\n")+"\n", 2+place)
		// The lines behind the first bad one count for nothing.
		lines = append(lines[:place+1], slices.Repeat([]string{"worse"}, 3)...)
		wantBad(t, "bad lines behind it", strings.Join(lines, "\n"), 2+place)
	}
}

func TestTooManyLines(t *testing.T) {
	for _, line := range []string{"close", "open\n" + "put a b", "crash", "get k"} {
		for _, count := range []int{998, 999, 1000, 1001, 1002, 1500, 3000} {
			lines := strings.Split(strings.Repeat(line+"\n", count), "\n")[:count]
			for _, text := range []string{someHead + strings.Join(lines, "\n"), someHead + strings.Join(lines, "\n") + "\n"} {
				if count > 1000 {
					wantBad(t, strconv.Itoa(count)+" lines", text, 1004)
				} else if s, code := wantParse(t, strconv.Itoa(count)+" lines", text); code != 0 || len(s.Ops) != count {
					t.Errorf("%d lines: code %d, %s", count, code, shownScript(s))
				}
			}
		}
	}
	most := someHead + strings.Repeat("close\n", 1000)
	wantRun(t, "the most lines", most)
	wantBad(t, "one more that is bad", most+"look\n", 1004)
	wantBad(t, "one more that is empty", most+"\n", 1004)
	wantBad(t, "one more, and a bad one", most+"close\nlook\n", 1004)
	wantBad(t, "many more, all bad", most+strings.Repeat("look\n", 50), 1004)
	for _, place := range []int{0, 1, 2, 3, 500, 1000, 1001} {
		for _, more := range []int{1, 2, 500} {
			lines := append([]string{"width 8", "cap 500"}, slices.Repeat([]string{"close"}, 1000+more)...)
			lines[place] = "look"
			wantBad(t, "too many, with a bad one before", strings.Join(lines, "\n"), 2+place)
		}
	}
}
