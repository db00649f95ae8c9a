package tests

import (
	"encoding/hex"
	"fmt"
	"math/rand"
	"slices"
	"strconv"
	"strings"
	"testing"

	"loop.example/s03048/impl"
)

// wantText asks for these lines of a script, each with its newline.
func wantText(t *testing.T, what string, text string, lines ...string) {
	t.Helper()
	wantRun(t, what, text)
	want := strings.Join(lines, "\n") + "\n"
	if got := impl.Run(text); got != want {
		t.Errorf("%s, %.300q:\n%.1000s\nwant\n%.1000s", what, text, got, want)
	}
}

// rootText is the root of a map as Run shows it.
func rootText(w int, texts ...string) string {
	return fmt.Sprintf("%x", rootFor(pairsFrom(texts...), w))
}

func TestRunOfABadScript(t *testing.T) {
	for text, want := range map[string]string{
		"":                          "bad 2\n",
		"width 0\ncap 500\n":        "bad 2\n",
		"width 8":                   "bad 3\n",
		someHead + "look\n":         "bad 4\n",
		someHead + "open\nopen \n":  "bad 5\n",
		strings.Repeat("x", 60001):  "bad 1\n",
		fillTo(60001):               "bad 1\n",
		someHead + manyCloses(1001): "bad 1004\n",
		someHead + manyCloses(999) + "look\nclose\n": "bad 1003\n",
	} {
		if got := impl.Run(text); got != want {
			t.Errorf("%.100q: %.100q, want %q", text, got, want)
		}
	}
}

func manyCloses(count int) string {
	return strings.Repeat("close\n", count)
}

func TestRunWithNoFurtherLine(t *testing.T) {
	for _, text := range []string{someHead, strings.TrimSuffix(someHead, "\n"), "width 32\ncap 0", "width 1\ncap 1048576\n"} {
		wantText(t, "no further line", text, "mode 0 bytes 0")
	}
}

func TestRunShowsAnAnswerForEachLine(t *testing.T) {
	root := rootText(8, "k", "ab")
	wantText(t, "a session", someHead+"open\ncommit\nput k ab\nget k\nget q\nrange _ _\ncommit\ndiff 1 2\ndiff 2 1\nversions\nclose\nget k\nopen\n",
		"0 0", "0 1", "0 0", "0 0 6162", "3 0", "0 0 6b=6162", "0 2 "+root, "0 0 6b:->=6162", "0 0 6b:=6162>-", "0 2 - "+root, "0 0", "1 0", "0 2", "mode 1 bytes 192")
	wantText(t, "the script that the README shows", someHead+"open\nput k ab\ncommit\nrange _ _\n", "0 0", "0 0", "0 1 38e7c7e4eb4b91bc", "0 0 6b=6162", "mode 1 bytes 128")
	wantText(t, "without the last newline", someHead+"open\nopen", "0 0", "1 0", "mode 1 bytes 0")
	wantText(t, "nothing but refusals", someHead+"commit\nget _\nget k\ncheckout -1\nversions\n", "1 0", "2 0", "1 0", "1 0", "1 0", "mode 0 bytes 0")
}

func TestRunShowsValues(t *testing.T) {
	for b := 33; b <= 126; b++ {
		word := string([]byte{byte(b), 'x', byte(b)})
		shown := hex.EncodeToString([]byte(word))
		wantText(t, "a value", someHead+"open\nput k "+word+"\nget k\nput "+word+" v\nrange "+word+" _\n",
			"0 0", "0 0", "0 0 "+shown, "0 0", documentLine(rangeOfTwo(word)), "mode 1 bytes 0")
	}
	wantText(t, "an empty value", someHead+"open\nput k _\nget k\nrange _ _\nrange l _\n", "0 0", "0 0", "0 0", "0 0 6b=", "0 0", "mode 1 bytes 0")
	wantText(t, "an underscore twice", someHead+"open\nput __ _a\nget __\nrange _ _\n", "0 0", "0 0", "0 0 5f61", "0 0 5f5f=5f61", "mode 1 bytes 0")
}

// rangeOfTwo is the answer from that key on where k has the same text as its value.
func rangeOfTwo(key string) impl.Answer {
	return impl.Answer{Pairs: pairsBetween(with(pairsFrom("k", key), key, "v"), key, "")}
}

func TestRunShowsPairs(t *testing.T) {
	wantText(t, "pairs", someHead+"open\nput b 2\nput a _\nput c 333\nrange _ _\nrange a b\nrange b _\nrange _ b\nrange c a\n",
		"0 0", "0 0", "0 0", "0 0", "0 0 61= 62=32 63=333333", "0 0 61=", "0 0 62=32 63=333333", "0 0 61=", "0 0", "mode 1 bytes 0")
}

func TestRunShowsRootsAndVersions(t *testing.T) {
	for _, w := range []int{1, 2, 8, 31, 32} {
		a, ab := rootText(w, "a", "1"), rootText(w, "a", "1", "b", "2")
		if len(a) != 2*w {
			t.Fatalf("width %d: %s", w, a)
		}
		wantText(t, "versions", headFor(w, 9999)+"versions\nopen\nversions\ncommit\nversions\nput a 1\ncommit\nversions\ndel a\ncommit\nput a 1\nput b 2\ncommit\nversions\n",
			"1 0", "0 0", "0 0", "0 1", "0 1 -", "0 0", "0 2 "+a, "0 2 - "+a, "0 0", "0 3", "0 0", "0 0", "0 4 "+ab, "0 4 - "+a+" - "+ab,
			"mode 1 bytes "+strconv.Itoa(sizeFor(w)))
	}
	wantText(t, "empty versions", someHead+"open\ncommit\ncommit\ncommit\nversions\n", "0 0", "0 1", "0 2", "0 3", "0 3 - - -", "mode 1 bytes 192")
}

// sizeFor is that of the log of an empty map, of one key, of the empty map again, and of two keys.
func sizeFor(w int) int {
	one, rootOne := documentTree(pairsFrom("a", "1"), w)
	two, rootTwo := documentTree(pairsFrom("a", "1", "b", "2"), w)
	fresh := slices.DeleteFunc(slices.Clone(two), func(enc string) bool { return slices.Contains(one, enc) })
	log, _ := logOf([]commitOf{{nil, ""}, {one, rootOne}, {nil, ""}, {fresh, rootTwo}})
	return len(log)
}

func TestRunShowsProofs(t *testing.T) {
	texts := []string{"a", "1", "b", "2", "c", "3", "d", "4"}
	saved := documentSave(poolWith(8), pairsFrom(texts...))
	begin, shown := headFor(8, 9999)+"open\nput a 1\nput b 2\nput c 3\nput d 4\ncommit\n", []string{"0 0", "0 0", "0 0", "0 0", "0 0", "0 1 " + rootText(8, texts...)}
	ending := "mode 1 bytes " + strconv.Itoa(64*5)
	for _, lo := range []string{"", "a", "b", "bb", "d", "e"} {
		for _, hi := range []string{"", "a", "c", "e"} {
			proof, _ := documentProve(saved.Pool, saved.Root, lo, hi)
			wantText(t, "a proof", begin+lineFor(proveOp(1, lo, hi))+"\n", append(slices.Clone(shown), fmt.Sprintf("0 0 %x", proof), ending)...)
		}
	}
	for _, version := range []string{"0", "2", "-1", "99999999"} {
		wantText(t, "no version", begin+"prove "+version+" _ _\n", append(slices.Clone(shown), "3 0", ending)...)
	}
	wantText(t, "a proof of nothing", someHead+"open\ncommit\nprove 1 _ _\n", "0 0", "0 1", "0 0 45", "mode 1 bytes 64")
}

func TestRunShowsChanges(t *testing.T) {
	begin := headFor(8, 9999) + "open\nput both 1\nput gone 2\nput goneempty _\nput fromempty _\nput toempty 3\nput same 4\nput sameempty _\ncommit\n" +
		"put both 11\ndel gone\ndel goneempty\nput fromempty 5\nput toempty _\nput new 6\nput newempty _\ncommit\n"
	o := wantRun(t, "two versions", begin)
	hexes := func(keys ...string) []any {
		var out []any
		for _, key := range keys {
			out = append(out, hex.EncodeToString([]byte(key)))
		}
		return out
	}
	shown := strings.Split(strings.TrimSuffix(impl.Run(begin), "\n"), "\n")
	keys := hexes("both", "fromempty", "gone", "goneempty", "new", "newempty", "toempty")
	lines := append(shown[:len(o.Answers)],
		fmt.Sprintf("0 0 %s:=31>=3131 %s:=>=35 %s:=32>- %s:=>- %s:->=36 %s:->= %s:=33>=", keys...),
		fmt.Sprintf("0 0 %s:=3131>=31 %s:=35>= %s:->=32 %s:->= %s:=36>- %s:=>- %s:=>=33", keys...),
		"0 0", "0 0", "3 0", "3 0", "3 0", shown[len(o.Answers)])
	wantText(t, "changes", begin+"diff 1 2\ndiff 2 1\ndiff 1 1\ndiff 2 2\ndiff 0 1\ndiff 1 3\ndiff -1 -1\n", lines...)
}

func TestRunShowsCollisions(t *testing.T) {
	for _, w := range []int{1, 2} {
		one, two := twinKeys(w)
		clash := fmt.Sprintf("4 0 !%x/%x", "N"+leaf(one, ""), "N"+leaf(two, ""))
		root := rootText(w, one, "")
		wantText(t, "a collision", headFor(w, 9999)+"open\nput "+one+" _\ncommit\ndel "+one+"\nput "+two+" _\ncommit\ncommit\nversions\n",
			"0 0", "0 0", "0 1 "+root, "0 0", "0 0", clash, clash, "0 1 "+root, "mode 1 bytes 128")
	}
}

func TestRunInEachMode(t *testing.T) {
	for steps, size := range []int{0, 64, 64, 128, 128} {
		fueled := someHead + "open\nput a 1\nfuel " + strconv.Itoa(steps) + "\ncommit\n"
		if steps == 4 {
			wantText(t, "alive", fueled, "0 0", "0 0", "0 0", "0 1 "+rootText(8, "a", "1"), "mode 1 bytes 128")
			continue
		}
		ending := "mode 2 bytes " + strconv.Itoa(size)
		wantText(t, "dead", fueled, "0 0", "0 0", "0 0", "8 0", ending)
		wantText(t, "dead, with more lines", fueled+"open\nfuel -1\nversions\nget _\n", "0 0", "0 0", "0 0", "8 0", "8 0", "8 0", "8 0", "8 0", ending)
	}
	begin := someHead + "open\nput a 1\nfuel 3\ncommit\n"
	root := rootText(8, "a", "1")
	wantText(t, "a crash that leaves nothing more", begin+"crash\nopen\n", "0 0", "0 0", "0 0", "8 0", "0 0", "0 0", "mode 1 bytes 0")
	wantText(t, "a crash before the opening", begin+"crash\n", "0 0", "0 0", "0 0", "8 0", "0 0", "mode 0 bytes 64")
	wantText(t, "a crash that leaves a part", begin+"crash 20\n", "0 0", "0 0", "0 0", "8 0", "0 0", "mode 0 bytes 84")
	wantText(t, "a crash that leaves all", begin+"crash 64\nopen\nversions\n", "0 0", "0 0", "0 0", "8 0", "0 0", "0 1", "0 1 "+root, "mode 1 bytes 128")
	wantText(t, "closed", someHead+"open\ncommit\nclose\n", "0 0", "0 1", "0 0", "mode 0 bytes 64")
	wantText(t, "an opening that dies", begin+"crash\nfuel 0\nopen\n", "0 0", "0 0", "0 0", "8 0", "0 0", "0 0", "8 0", "mode 2 bytes 64")
}

func TestRunOfAFullDiskAndAFullDraft(t *testing.T) {
	wantText(t, "no room", "width 8\ncap 127\nopen\nput a 1\ncommit\ndel a\ncommit\ncommit\n", "0 0", "0 0", "5 0", "0 0", "0 1", "5 0", "mode 1 bytes 64")
	var puts, shown []string
	for i := range 500 {
		puts, shown = append(puts, fmt.Sprintf("put %d _", 1000+i)), append(shown, "0 0")
	}
	text := headFor(8, impl.MaxDisk) + "open\n" + strings.Join(puts, "\n") + "\nput x _\nput 1000 1\nget 1000\nget x\n"
	lines := slices.Concat([]string{"0 0"}, shown, []string{"6 0", "0 0", "0 0 31", "3 0", "mode 1 bytes 0"})
	wantText(t, "a full draft", text, lines...)
}

// Promise 17, with the program's own Exec: a line for each answer, and one for the end.
func TestRunShowsTheAnswersOfExec(t *testing.T) {
	for seed := range 300 {
		r := rand.New(rand.NewSource(int64(seed)))
		text := mixedScript(r, storeWidths()[seed%4], 40)
		s, code := impl.ParseScript(text)
		if code != 0 {
			continue
		}
		shown := impl.Run(text)
		lines := strings.SplitAfter(shown, "\n")
		if len(lines) != len(s.Ops)+2 || lines[len(lines)-1] != "" {
			t.Fatalf("seed %d: %d lines for %d operations", seed, len(lines)-1, len(s.Ops))
		}
		o := impl.Exec(s.Width, impl.Disk{Cap: s.Cap}, s.Ops)
		if shown != documentText(o) {
			t.Fatalf("seed %d: what is shown is not what Exec answers", seed)
		}
	}
}

// Collisions, deaths and crashes one after another, which chance alone brings too seldom.
func TestRunOfScriptsWithTwins(t *testing.T) {
	counts := map[int]int{}
	for seed := range 800 {
		r := rand.New(rand.NewSource(int64(seed)))
		w := 1 + seed%2
		one, two := twinKeys(w)
		lines := []string{"open"}
		for range 40 {
			choice := []string{"put " + one + " _", "put " + two + " _", "del " + one, "del " + two, "commit", "commit", "open", "fuel " + strconv.Itoa(r.Intn(7)-1),
				numbersLine("crash", mixedPicks(r)...), "checkout " + strconv.Itoa(r.Intn(4)), "versions", "range _ _", "diff 1 2"}
			lines = append(lines, choice[r.Intn(len(choice))])
		}
		o := wantRun(t, "seed "+strconv.Itoa(seed), headFor(w, 9999)+strings.Join(lines, "\n"))
		for _, a := range o.Answers {
			counts[a.Code]++
		}
	}
	if counts[impl.StoreCollision] < 100 || counts[impl.StoreDead] < 100 {
		t.Errorf("codes %v", counts)
	}
}
