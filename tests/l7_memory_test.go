package tests

import (
	"math/rand"
	"slices"
	"strconv"
	"strings"
	"sync"
	"testing"

	"loop.example/s03048/impl"
)

// longScript has every kind of line, with words that are in no other place.
func longScript() string {
	lines := []string{"width 8", "cap 99999"}
	for _, op := range longSession() {
		op.Key, op.Val = printable(op.Key), printable(op.Val)
		lines = append(lines, lineFor(op))
	}
	return strings.Join(append(lines, "crash 1 2 3", "crash 4 5", "del k", "put a b", "put a a", "prove 1 _ z"), "\n")
}

func TestAScriptIsNewMemory(t *testing.T) {
	text := longScript()
	one, code := impl.ParseScript(text)
	two, again := impl.ParseScript(text)
	if code != 0 || again != 0 || !sameScript(one, two) {
		t.Fatalf("codes %d and %d, %s", code, again, shownScript(one))
	}
	words := opTexts(one.Ops)
	wantNewMemory(t, "a script", words, []string{text})
	wantNewMemory(t, "a script, again", opTexts(two.Ops), words)
	for i, word := range words {
		wantNewMemory(t, "two words of a script", []string{word}, words[i+1:])
	}
}

// What is written into one list of a script, and behind it, is seen in no other.
func TestListsOfAScriptShareNoMemory(t *testing.T) {
	text := longScript()
	s, _ := impl.ParseScript(text)
	want, _ := impl.ParseScript(text)
	for i, op := range s.Ops {
		for j := range op.Picks {
			op.Picks[j] = 77
		}
		_ = append(op.Picks, 78)
		for j := i + 1; j < len(s.Ops); j++ {
			if !sameOp(s.Ops[j], want.Ops[j]) {
				t.Fatalf("operation %d changes with operation %d", j, i)
			}
		}
	}
	if again, code := impl.ParseScript(text); code != 0 || !sameScript(again, want) {
		t.Error("something is kept from one call to the next")
	}
}

func TestWhatRunShowsIsNewMemory(t *testing.T) {
	for _, text := range []string{longScript(), someHead, "bad 2\n", ""} {
		one, two := impl.Run(text), impl.Run(text)
		if one != two {
			t.Errorf("%.100q twice: %.100q and %.100q", text, one, two)
		}
		wantNewMemory(t, "what is shown", []string{one}, []string{text, two})
	}
}

// anyText has any bytes, or pieces of scripts in any order.
func anyText(r *rand.Rand) string {
	pieces := []string{" ", "\n", "width", "cap", "8", "500", "width 8\n", "cap 500\n", someHead, "open", "put", "crash", "_", "-1", "\x00", "\xff", "\xc3", "é", "\r\n"}
	var out strings.Builder
	for range r.Intn(40) {
		if r.Intn(3) == 0 {
			out.WriteByte(byte(r.Intn(256)))
		} else {
			out.WriteString(pieces[r.Intn(len(pieces))])
		}
	}
	return out.String()
}

func TestTextsOfAnyBytes(t *testing.T) {
	for seed := range 6000 {
		r := rand.New(rand.NewSource(int64(seed)))
		wantRun(t, "seed "+strconv.Itoa(seed), anyText(r))
	}
	for b := range 256 {
		one := string([]byte{byte(b)})
		for _, text := range []string{one, someHead + one, someHead + "open\n" + one, "width " + one, "width 8\ncap " + one, strings.Repeat(one, 60000), strings.Repeat(one+"\n", 30000), someHead + "crash " + strings.Repeat(one, 50000), someHead + "get " + strings.Repeat(one, 50000)} {
			wantRun(t, "byte "+strconv.Itoa(b), text)
		}
	}
}

func TestScriptsCutAnywhere(t *testing.T) {
	text := longScript()
	for size := range len(text) {
		wantParse(t, strconv.Itoa(size)+" bytes", text[:size])
		wantParse(t, "from byte "+strconv.Itoa(size), text[size:])
		if size%7 == 0 {
			wantRun(t, strconv.Itoa(size)+" bytes", text[:size])
		}
	}
}

func TestNoGoroutineIsLeftByRun(t *testing.T) {
	for _, text := range []string{"", someHead, longScript(), someHead + "open\nfuel 0\ncommit\n", someHead + "look"} {
		impl.Run(text)
		wantNoGoroutine(t, "a script")
	}
}

func TestScriptsSideBySide(t *testing.T) {
	var all sync.WaitGroup
	wrong := make([]bool, 16)
	for i := range wrong {
		all.Go(func() {
			text := mixedScript(rand.New(rand.NewSource(int64(i))), 8, 60)
			s, code := impl.ParseScript(text)
			wrong[i] = code != 0 || impl.Run(text) != impl.Run(text) || len(s.Ops) < 60
		})
	}
	all.Wait()
	if slices.Contains(wrong, true) {
		t.Errorf("%v", wrong)
	}
}
