package tests

import (
	"fmt"
	"math/rand"
	"regexp"
	"slices"
	"strconv"
	"strings"
	"testing"

	"loop.example/s03048/impl"
)

// What stands here goes by the words of the document's chapter 7, with no function of that chapter.

// documentKinds are the further lines as the document shows them; the place of each is its kind.
var documentKinds = []string{
	impl.OpOpen: "open", impl.OpPut: "put WORD WORD", impl.OpDel: "del WORD", impl.OpGet: "get WORD", impl.OpRange: "range WORD WORD",
	impl.OpCommit: "commit", impl.OpCheckout: "checkout N", impl.OpVersions: "versions", impl.OpProve: "prove N WORD WORD", impl.OpDiff: "diff N N",
	impl.OpClose: "close", impl.OpCrash: "crash N N ...", impl.OpFuel: "fuel N",
}

// formOf is the expression for a line as the document shows it.
func formOf(shown string) *regexp.Regexp {
	number := "(?:0|[1-9][0-9]{0,7}|-1)"
	form := strings.NewReplacer(" N N ...", "((?: "+number+")*)", " N", " ("+number+")", "WORD", "([!-~]+)").Replace(shown)
	return regexp.MustCompile(`\A` + form + `\z`)
}

var widthForm, capForm = formOf("width N"), formOf("cap N")

var opForms = func() []*regexp.Regexp {
	var forms []*regexp.Regexp
	for _, shown := range documentKinds {
		forms = append(forms, formOf(shown))
	}
	return forms
}()

func decimal(text string) int {
	n, err := strconv.Atoi(text)
	if err != nil {
		panic(err)
	}
	return n
}

func fillField(op *impl.Op, field string, part string) {
	text := part
	if part == "_" {
		text = ""
	}
	switch field {
	case "Key":
		op.Key = text
	case "Val":
		op.Val = text
	case "N":
		op.N = decimal(part)
	case "M":
		op.M = decimal(part)
	case "Picks":
		for _, number := range strings.Fields(part) {
			op.Picks = append(op.Picks, decimal(number))
		}
	}
}

func documentOp(line string) (impl.Op, bool) {
	for kind := impl.OpOpen; kind <= impl.OpFuel; kind++ {
		found := opForms[kind].FindStringSubmatch(line)
		if found == nil {
			continue
		}
		op := opOf(kind)
		for i, field := range namedFields(kind) {
			fillField(&op, field, found[i+1])
		}
		return op, true
	}
	return impl.Op{}, false
}

func headNumber(form *regexp.Regexp, line string, least int, most int) (int, bool) {
	found := form.FindStringSubmatch(line)
	if found == nil {
		return 0, false
	}
	n := decimal(found[1])
	return n, n >= least && n <= most
}

// documentScript gives the number of the first line that is not as described, or -1.
func documentScript(lines []string) (impl.Script, int) {
	var s impl.Script
	for i := 0; i < len(lines) || i < 2; i++ {
		right := i < len(lines)
		switch {
		case right && i == 0:
			s.Width, right = headNumber(widthForm, lines[i], 1, 32)
		case right && i == 1:
			s.Cap, right = headNumber(capForm, lines[i], 0, 1048576)
		case right:
			var op impl.Op
			op, right = documentOp(lines[i])
			s.Ops = append(s.Ops, op)
		}
		if !right {
			return impl.Script{}, i
		}
	}
	return s, -1
}

func documentParse(text string) (impl.Script, int) {
	if len(text) > 60000 {
		return impl.Script{}, 1
	}
	lines := strings.Split(text, "\n")
	if lines[len(lines)-1] == "" {
		lines = lines[:len(lines)-1]
	}
	tooMany := len(lines) > 2+1000
	s, bad := documentScript(lines[:min(len(lines), 2+1000)])
	switch {
	case bad >= 0:
		return impl.Script{}, 2 + bad
	case tooMany:
		return impl.Script{}, 1000 + 4
	}
	return s, 0
}

func documentSide(there bool, val string) string {
	if !there {
		return "-"
	}
	return fmt.Sprintf("=%x", val)
}

func documentLine(a impl.Answer) string {
	line := fmt.Sprintf("%d %d", a.Code, a.N)
	if a.Val != "" {
		line += fmt.Sprintf(" %x", a.Val)
	}
	for _, p := range a.Pairs {
		line += fmt.Sprintf(" %x=%x", p.Key, p.Val)
	}
	for _, val := range a.Vals {
		if val == "" {
			line += " -"
		} else {
			line += fmt.Sprintf(" %x", val)
		}
	}
	for _, c := range a.Changes {
		line += fmt.Sprintf(" %x:%s>%s", c.Key, documentSide(c.Had, c.Old), documentSide(c.Has, c.New))
	}
	if a.A != "" {
		line += fmt.Sprintf(" !%x/%x", a.A, a.B)
	}
	return line
}

// documentText is what Run shows of a session.
func documentText(o impl.Outcome) string {
	var out strings.Builder
	for _, a := range o.Answers {
		fmt.Fprintf(&out, "%s\n", documentLine(a))
	}
	fmt.Fprintf(&out, "mode %d bytes %d\n", o.Mode, len(o.Disk.Now))
	return out.String()
}

func sameScript(a impl.Script, b impl.Script) bool {
	return a.Width == b.Width && a.Cap == b.Cap && slices.EqualFunc(a.Ops, b.Ops, sameOp)
}

func shownScript(s impl.Script) string {
	ops := []string{fmt.Sprintf("width %d, cap %d, %d operations", s.Width, s.Cap, len(s.Ops))}
	for _, op := range s.Ops[:min(len(s.Ops), 5)] {
		ops = append(ops, shownOp(op))
	}
	return strings.Join(ops, "; ")
}

// wantParse holds ParseScript to the document, and gives its answers.
func wantParse(t *testing.T, what string, text string) (impl.Script, int) {
	t.Helper()
	got, code := impl.ParseScript(text)
	want, wantCode := documentParse(text)
	if code != wantCode || !sameScript(got, want) {
		t.Fatalf("%s, %.300q: code %d, %s\nwant code %d, %s", what, text, code, shownScript(got), wantCode, shownScript(want))
	}
	return got, code
}

// wantRun holds Run to the document, with the session executed by the document's words too, and gives the session.
func wantRun(t *testing.T, what string, text string) impl.Outcome {
	t.Helper()
	var o impl.Outcome
	s, code := wantParse(t, what, text)
	want := fmt.Sprintf("bad %d\n", code)
	if code == 0 {
		o = documentExec(s.Width, impl.Disk{Cap: s.Cap}, s.Ops)
		want = documentText(o)
	}
	if got := impl.Run(text); got != want {
		t.Fatalf("%s, %.300q:\n%.1000s\nwant\n%.1000s", what, text, got, want)
	}
	return o
}

// printable has other bytes in place of those that a word can't have.
func printable(text string) string {
	out := []byte(text)
	for i, b := range out {
		if b < 33 || b > 126 {
			out[i] = 33 + b%94
		}
	}
	return string(out)
}

func wordFor(text string) string {
	if text == "" {
		return "_"
	}
	return text
}

// numbersLine has each number behind a space.
func numbersLine(first string, numbers ...int) string {
	for _, n := range numbers {
		first += " " + strconv.Itoa(n)
	}
	return first
}

// lineFor writes an operation of a known kind as a line.
func lineFor(op impl.Op) string {
	line := strings.Fields(documentKinds[op.Kind])[0]
	for _, field := range namedFields(op.Kind) {
		switch field {
		case "Key":
			line += " " + wordFor(op.Key)
		case "Val":
			line += " " + wordFor(op.Val)
		case "N":
			line = numbersLine(line, op.N)
		case "M":
			line = numbersLine(line, op.M)
		case "Picks":
			line = numbersLine(line, op.Picks...)
		}
	}
	return line
}

// mixedLine is a line as described, whatever its operation is.
func mixedLine(r *rand.Rand) string {
	for {
		op := mixedOp(r)
		op.Key, op.Val = printable(op.Key), printable(op.Val)
		if op.Kind >= impl.OpOpen && op.Kind <= impl.OpFuel && op.N >= -1 {
			return lineFor(op)
		}
	}
}

func headFor(w int, room int) string {
	return fmt.Sprintf("width %d\ncap %d\n", w, room)
}

// mixedScript is a script as described, with its last newline or without.
func mixedScript(r *rand.Rand, w int, count int) string {
	rooms := []int{0, 64, 700, 3000, 20000, impl.MaxDisk, impl.MaxDisk, impl.MaxDisk}
	lines := []string{"open"}
	for range count {
		lines = append(lines, mixedLine(r))
	}
	lines = lines[r.Intn(8)/7:]
	return headFor(w, rooms[r.Intn(len(rooms))]) + strings.Join(lines, "\n") + strings.Repeat("\n", r.Intn(2))
}

// Promise 17, over scripts that are as described.
func TestRunOfManyScripts(t *testing.T) {
	counts, modes := map[[2]int]int{}, map[int]int{}
	for seed := range 2400 {
		r := rand.New(rand.NewSource(int64(seed)))
		text := mixedScript(r, storeWidths()[seed%4], 50)
		o := wantRun(t, "seed "+strconv.Itoa(seed), text)
		s, code := impl.ParseScript(text)
		if code != 0 && len(text) <= impl.MaxScript {
			t.Fatalf("seed %d: code %d", seed, code)
		}
		for i, a := range o.Answers {
			counts[[2]int{s.Ops[i].Kind, a.Code}]++
		}
		modes[o.Mode]++
	}
	for kind := impl.OpOpen; kind <= impl.OpFuel; kind++ {
		for _, code := range scriptCodes(kind) {
			if counts[[2]int{kind, code}] < 5 {
				t.Errorf("kind %d, code %d: %d times", kind, code, counts[[2]int{kind, code}])
			}
		}
	}
	if modes[impl.ModeClosed] < 50 || modes[impl.ModeOpen] < 50 || modes[impl.ModeDead] < 50 {
		t.Errorf("modes %v", modes)
	}
}

// scriptCodes are those that a line can lead to: on a disk with nothing on it nothing is damaged, and only some lines are operations that are not as described.
func scriptCodes(kind int) []int {
	hasSizes := kind == impl.OpPut || kind == impl.OpDel || kind == impl.OpGet
	return slices.DeleteFunc(documentCodes(kind), func(code int) bool {
		return code == impl.StoreDamaged || code == impl.StoreBad && !hasSizes
	})
}

// spoiledText has a fault or more, or by chance none.
func spoiledText(r *rand.Rand, text string) string {
	pieces := []string{" ", "\n", "\r", "_", "0", "-", "-1", "1", "9", "\x1f", "!", "~", "\x7f", "\x80", "\xff", "\x00", "a", "open", "width 8\n", "cap 9\n", "\ncrash", " 1 2", "+"}
	for range 1 + r.Intn(2) {
		at := r.Intn(len(text) + 1)
		if r.Intn(2) == 0 {
			// A line that is chosen first may be one of the heads, and a byte at its end is no rarer than one within.
			lines := strings.SplitAfter(text, "\n")
			at = len(strings.Join(lines[:r.Intn(min(len(lines), 6))], ""))
		}
		to := min(at+r.Intn(3), len(text))
		text = text[:at] + pieces[r.Intn(len(pieces))] + text[to:]
	}
	return text
}

// Promise 17, over texts that are mostly no scripts.
func TestRunOfManySpoiledScripts(t *testing.T) {
	codes := map[int]int{}
	for seed := range 12000 {
		r := rand.New(rand.NewSource(int64(seed)))
		text := spoiledText(r, mixedScript(r, storeWidths()[seed%4], r.Intn(12)))
		_, code := wantParse(t, "seed "+strconv.Itoa(seed), text)
		codes[code]++
		if seed%4 == 0 {
			wantRun(t, "seed "+strconv.Itoa(seed), text)
		}
	}
	for code := range 9 {
		if code != 1 && codes[code] < 100 {
			t.Errorf("code %d: %d times", code, codes[code])
		}
	}
}
