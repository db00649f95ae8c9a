package tests

import (
	"math"
	"slices"
	"strconv"
	"strings"
	"testing"

	"loop.example/s03048/impl"
)

// wantLast holds the last answers of a session to what a test names.
func wantLast(t *testing.T, what string, o impl.Outcome, want ...impl.Answer) {
	t.Helper()
	from := len(o.Answers) - len(want)
	for i, a := range want {
		if !sameAnswer(o.Answers[from+i], a) {
			t.Errorf("%s: answer %d is %s\nwant %s", what, from+i, shownAnswer(o.Answers[from+i]), shownAnswer(a))
		}
	}
}

func TestPutAndDelChangeTheDraft(t *testing.T) {
	ops := []impl.Op{openOp(), delOp("a"), putOp("b", "1"), putOp("a", ""), putOp("b", "2"), getOp("a"), getOp("b"), rangeOp("", ""),
		delOp("c"), delOp("b"), delOp("b"), getOp("b"), rangeOp("", "")}
	for _, w := range storeWidths() {
		o := wantExec(t, "puts and dels", w, impl.Disk{Cap: 999}, ops)
		wantLast(t, "puts and dels", o, impl.Answer{}, impl.Answer{}, impl.Answer{}, impl.Answer{}, impl.Answer{}, impl.Answer{}, impl.Answer{Val: "2"},
			impl.Answer{Pairs: pairsFrom("a", "", "b", "2")}, impl.Answer{}, impl.Answer{}, impl.Answer{}, coded(impl.StoreNone), impl.Answer{Pairs: pairsFrom("a", "")})
		if o.Disk != (impl.Disk{Cap: 999}) {
			t.Errorf("the draft is on the disk: %s", shownDisk(o.Disk))
		}
	}
}

func TestPutOfOneMoreThanTheMost(t *testing.T) {
	for _, count := range []int{498, 499, 500} {
		ps := numbered(count)
		ops := append([]impl.Op{openOp()}, putOps(ps)...)
		ops = append(ops, putOp("10000", "set"), putOp("x", "1"), putOp("y", "2"), putOp("10000", "again"), rangeOp("", ""))
		codes := make([]int, len(ops))
		left := with(ps, "10000", "again")
		for i, key := range []string{"x", "y"} {
			if count+i < 500 {
				left = with(left, key, strconv.Itoa(i+1))
			} else {
				codes[len(ops)-4+i] = impl.StoreMany
			}
		}
		o := wantCodes(t, strconv.Itoa(count)+" pairs", 8, impl.Disk{Cap: impl.MaxDisk}, ops, codes...)
		wantLast(t, strconv.Itoa(count)+" pairs", o, impl.Answer{}, impl.Answer{Pairs: left})
	}
}

// A draft of the most pairs is committed, is there again after opening, and has room once a key is out.
func TestADraftOfTheMostPairs(t *testing.T) {
	ps := numbered(500)
	ops := append([]impl.Op{openOp()}, putOps(ps)...)
	ops = append(ops, commitOp(), closeOp(), openOp(), putOp("x", "1"), getOp("x"), delOp("x"), putOp("x", "1"), delOp("10000"), putOp("x", "1"), putOp("10000", "1"), commitOp())
	codes := make([]int, len(ops))
	copy(codes[len(ops)-8:], []int{6, 3, 0, 6, 0, 0, 6, 0})
	wantCodes(t, "the most pairs", 8, impl.Disk{Cap: impl.MaxDisk}, ops, codes...)
}

func TestRangesOfADraft(t *testing.T) {
	ps := pairsFrom("a", "1", "a\x00", "", "b", "2", "ba", "3", "c", "4", "\xff", "5")
	for _, committed := range []bool{false, true} {
		before := append([]impl.Op{openOp()}, putOps(ps)...)
		if committed {
			before = append(before, commitOp())
		}
		bounds := boundsFor(ps)
		for _, lo := range bounds {
			ops := slices.Clone(before)
			var want []impl.Answer
			for _, hi := range bounds {
				ops = append(ops, rangeOp(lo, hi))
				want = append(want, impl.Answer{Pairs: pairsBetween(ps, lo, hi)})
			}
			wantLast(t, "from "+strconv.Quote(lo), wantExec(t, "ranges", 8, impl.Disk{Cap: 999}, ops), want...)
		}
	}
}

func TestGetOfKeysNearby(t *testing.T) {
	ps := pairsFrom("a", "1", "ab", "", "b", "2")
	ops := append([]impl.Op{openOp(), getOp("a")}, putOps(ps)...)
	var want []impl.Answer
	for _, key := range []string{"a", "a\x00", "aa", "ab", "ab\x00", "ac", "b", "A", "\x00", "\xff", "b\x00"} {
		ops = append(ops, getOp(key))
		val, found := valueIn(ps, key)
		if found {
			want = append(want, impl.Answer{Val: val})
		} else {
			want = append(want, coded(impl.StoreNone))
		}
	}
	wantLast(t, "gets", wantExec(t, "gets", 8, impl.Disk{Cap: 999}, ops), want...)
}

func rootFor(ps []impl.Pair, w int) string {
	_, root := documentTree(ps, w)
	return root
}

// Each commit is a sector more at least, also where nothing is new.
func TestCommitsWithNothingNewAndOfNothing(t *testing.T) {
	for _, w := range []int{8, 32} {
		one, two := pairsFrom("a", "1"), pairsFrom("a", "1", "b", "2")
		ops := []impl.Op{openOp(), commitOp(), commitOp(), putOp("a", "1"), commitOp(), commitOp(), putOp("b", "2"), commitOp(), delOp("b"), commitOp(), delOp("a"), commitOp(), versionsOp()}
		o := wantExec(t, "commits", w, impl.Disk{Cap: 9999}, ops)
		roots := []string{"", "", rootFor(one, w), rootFor(one, w), rootFor(two, w), rootFor(one, w), ""}
		wantLast(t, "commits", o, impl.Answer{N: 7, Vals: roots})
		for i, at := range []int{1, 2, 4, 5, 7, 9, 11} {
			if a := o.Answers[at]; !sameAnswer(a, impl.Answer{N: i + 1, Val: roots[i]}) {
				t.Errorf("commit %d: %s", i+1, shownAnswer(a))
			}
		}
		encs, _ := documentTree(two, w)
		nodes := []string{"", "", leaf("a", "1"), "", strings.Join(encs, "|"), "", ""}
		want := ""
		for i, enc := range nodes {
			for _, e := range strings.Split(enc, "|") {
				if e != "" && !strings.Contains(want, documentNodeRecord(e)) {
					want += documentNodeRecord(e)
				}
			}
			want += documentCommitRecord(i+1, roots[i])
		}
		if o.Disk.Now != want || o.Disk.Stable != want {
			t.Errorf("width %d: %s, want %d bytes", w, shownDisk(o.Disk), len(want))
		}
	}
}

// twinKeys are two keys whose leaves without a value have one hash.
func twinKeys(w int) (string, string) {
	one, two := twinLeaves(w)
	a, _ := impl.DecodeNode(one, w)
	b, _ := impl.DecodeNode(two, w)
	return a.Key, b.Key
}

func TestCommitWithACollision(t *testing.T) {
	for _, w := range []int{1, 2} {
		one, two := twinKeys(w)
		before := []impl.Op{openOp(), putOp(one, ""), commitOp(), delOp(one), putOp(two, "")}
		was := wantExec(t, "before", w, impl.Disk{Cap: 9999}, before)
		ops := append(slices.Clone(before), commitOp(), versionsOp(), rangeOp("", ""), commitOp(), putOp(two, "other"), commitOp(), rangeOp("", ""))
		o := wantExec(t, "a collision", w, impl.Disk{Cap: 9999}, ops[:len(ops)-3])
		clash := impl.Answer{Code: impl.StoreCollision, A: "N" + leaf(one, ""), B: "N" + leaf(two, "")}
		wantTwins(t, "a collision", o.Answers[5].A, o.Answers[5].B, w)
		root := rootFor(pairsFrom(one, ""), w)
		wantLast(t, "a collision", o, clash, impl.Answer{N: 1, Vals: []string{root}}, impl.Answer{Pairs: pairsFrom(two, "")}, clash)
		if o.Disk != was.Disk || o.Mode != impl.ModeOpen {
			t.Errorf("width %d: %s after the collision, %s before", w, shownDisk(o.Disk), shownDisk(was.Disk))
		}
		o = wantExec(t, "behind a collision", w, impl.Disk{Cap: 9999}, ops)
		wantLast(t, "behind a collision", o, impl.Answer{N: 2, Val: rootFor(pairsFrom(two, "other"), w)}, impl.Answer{Pairs: pairsFrom(two, "other")})
	}
}

// A collision counts before the room, and a junk record before both.
func TestACollisionCountsBeforeTheRoom(t *testing.T) {
	one, two := twinKeys(1)
	ops := []impl.Op{openOp(), putOp(one, ""), commitOp(), delOp(one), putOp(two, ""), commitOp()}
	for _, room := range []int{128, 129, 191, 192, 255, 256} {
		wantCodes(t, "a collision", 1, impl.Disk{Cap: room}, ops, 0, 0, 0, 0, 0, impl.StoreCollision)
	}
	junk := junkLike(leaf("a", "1"), 2)
	log := documentNodeRecord(junk) + documentCommitRecord(1, "")
	o := wantCodes(t, "junk", 2, safe(log), []impl.Op{openOp(), putOp("a", "1"), commitOp()}, 0, 0, impl.StoreCollision)
	wantLast(t, "junk", o, impl.Answer{Code: impl.StoreCollision, A: "N" + junk, B: "N" + leaf("a", "1")})
}

// Two nodes of one draft may clash, too; then none of the nodes before them is kept.
func TestACollisionWithinOneDraft(t *testing.T) {
	ops := []impl.Op{openOp()}
	var ps []impl.Pair
	for i := 0; documentSave(poolWith(1), ps).Code == impl.TreeOk; i++ {
		ps = with(ps, strconv.Itoa(i), "")
		ops = append(ops, putOp(strconv.Itoa(i), ""))
	}
	s := documentSave(poolWith(1), ps)
	o := wantExec(t, "within a draft", 1, impl.Disk{Cap: 9999}, append(ops, commitOp(), rangeOp("", ""), versionsOp()))
	wantLast(t, "within a draft", o, impl.Answer{Code: impl.StoreCollision, A: s.A, B: s.B}, impl.Answer{Pairs: ps}, impl.Answer{})
	if o.Disk.Now != "" {
		t.Errorf("%s", shownDisk(o.Disk))
	}
}

func TestCommitOnADiskThatIsTooSmall(t *testing.T) {
	for _, val := range []string{"", mixedText(49), mixedText(50), mixedText(2000)} {
		before := []impl.Op{openOp(), putOp("a", val)}
		nodes := len(documentNodeRecord(leaf("a", val)))
		for _, room := range []int{0, 63, 64, nodes - 1, nodes, nodes + 1, nodes + 63, nodes + 64, nodes + 65, nodes + 127, nodes + 128} {
			for _, more := range []int{0, 1} {
				ops := slices.Clone(before)
				want := impl.Answer{Code: impl.StoreFull}
				d := impl.Disk{Cap: room}
				if more == 1 {
					// The record of a commit without nodes stands before.
					ops = append([]impl.Op{openOp(), commitOp()}, before[1:]...)
					d.Cap += 64
				}
				if room >= nodes+64 {
					want = impl.Answer{N: 1 + more, Val: rootFor(pairsFrom("a", val), 8)}
				}
				o := wantExec(t, "room", 8, d, append(ops, commitOp(), getOp("a")))
				wantLast(t, "room "+strconv.Itoa(room), o, want, impl.Answer{Val: val})
				if want.Code == impl.StoreFull && len(o.Disk.Now) != 64*more {
					t.Errorf("room %d: %s", room, shownDisk(o.Disk))
				}
			}
		}
	}
}

func TestCommitWithoutNodesOnADiskThatIsTooSmall(t *testing.T) {
	for _, room := range []int{128, 129, 191, 192, 193, 255, 256} {
		ops := []impl.Op{openOp(), putOp("a", "1"), commitOp(), commitOp(), delOp("a"), commitOp(), versionsOp()}
		o := wantExec(t, "room", 8, impl.Disk{Cap: room}, ops)
		versions := room / 64
		if got := o.Answers[6].N; got != versions-1 {
			t.Errorf("room %d: %d versions", room, got)
		}
	}
}

// The greatest values fill the greatest disk before the map is full.
func TestCommitOnTheGreatestDisk(t *testing.T) {
	var ps []impl.Pair
	for i := range 500 {
		ps = append(ps, impl.Pair{Key: strconv.Itoa(1000+i) + zeros(96), Val: mixedText(2000)})
	}
	ops := append([]impl.Op{openOp()}, putOps(ps)...)
	ops = append(ops, commitOp())
	for _, p := range ps[:60] {
		ops = append(ops, delOp(p.Key))
	}
	key := ps[400].Key
	ops = append(ops, commitOp(), closeOp(), openOp(), rangeOp("1400", "1402"), putOp(key, "new"), commitOp(), proveOp(1, "1400", "1401"), proveOp(2, "1400", "1401"), diffOp(1, 2))
	codes := make([]int, len(ops))
	codes[501] = impl.StoreFull
	o := wantCodes(t, "a great disk", 32, impl.Disk{Cap: impl.MaxDisk}, ops, codes...)
	wantLast(t, "a great disk", o, impl.Answer{Changes: []impl.Change{{Key: key, Had: true, Old: mixedText(2000), Has: true, New: "new"}}})
}

func TestVersionsThatAreNotThere(t *testing.T) {
	before := []impl.Op{openOp(), putOp("a", "1"), commitOp(), putOp("b", "2"), commitOp(), putOp("c", "3")}
	draft := pairsFrom("a", "1", "b", "2", "c", "3")
	for _, n := range []int{0, 3, 4, -1, -2, 1000, math.MinInt, math.MaxInt, 1<<32 + 1, 1<<32 + 2} {
		ops := append(slices.Clone(before), checkoutOp(n), rangeOp("", ""), proveOp(n, "", ""), diffOp(n, 1), diffOp(1, n), diffOp(n, n), rangeOp("", ""))
		o := wantExec(t, "version "+strconv.Itoa(n), 8, impl.Disk{Cap: 9999}, ops)
		none := coded(impl.StoreNone)
		wantLast(t, "version "+strconv.Itoa(n), o, none, impl.Answer{Pairs: draft}, none, none, none, none, impl.Answer{Pairs: draft})
	}
	for _, n := range []int{0, 1, -1} {
		o := wantExec(t, "no version", 8, impl.Disk{Cap: 9999}, []impl.Op{openOp(), checkoutOp(n), proveOp(n, "", ""), diffOp(n, n), versionsOp()})
		none := coded(impl.StoreNone)
		wantLast(t, "no version", o, none, none, none, impl.Answer{})
	}
}

func TestVersionsThatAreThere(t *testing.T) {
	maps := [][]impl.Pair{pairsFrom("a", "1"), pairsFrom("a", "1", "b", "2"), nil, pairsFrom("b", "3"), pairsFrom("a", "1")}
	for _, w := range []int{8, 32} {
		before := []impl.Op{openOp(), putOp("a", "1"), commitOp(), putOp("b", "2"), commitOp(), delOp("a"), delOp("b"), commitOp(), putOp("b", "3"), commitOp(), checkoutOp(1), commitOp(), putOp("draft", "x")}
		for n, ps := range maps {
			ops := append(slices.Clone(before), rangeOp("", ""), checkoutOp(n+1), rangeOp("", ""), putOp("new", "y"), checkoutOp(n+1), rangeOp("", ""), versionsOp())
			o := wantExec(t, "versions", w, impl.Disk{Cap: 9999}, ops)
			var roots []string
			for _, ps := range maps {
				roots = append(roots, rootFor(ps, w))
			}
			wantLast(t, "versions", o, impl.Answer{Pairs: pairsFrom("a", "1", "draft", "x")}, impl.Answer{}, impl.Answer{Pairs: ps}, impl.Answer{}, impl.Answer{}, impl.Answer{Pairs: ps}, impl.Answer{N: 5, Vals: roots})
			for m, qs := range maps {
				o := wantExec(t, "diffs", w, impl.Disk{Cap: 9999}, append(slices.Clone(before), diffOp(n+1, m+1), proveOp(m+1, "a", "b")))
				changes := o.Answers[len(before)].Changes
				if !slices.Equal(applied(t, ps, changes), qs) || n == m && len(changes) > 0 {
					t.Errorf("from version %d to %d: %v", n+1, m+1, changes)
				}
				shown, ok := impl.Verify(w, roots[m], "a", "b", o.Answers[len(before)+1].Val)
				if !ok || !slices.Equal(shown, pairsBetween(qs, "a", "b")) {
					t.Errorf("version %d: the proof shows %q, %t", m+1, shown, ok)
				}
			}
		}
	}
}

// A checkout takes the draft away and leaves the versions; what is committed then is one version more.
func TestCheckoutAndCommitAgain(t *testing.T) {
	ops := []impl.Op{openOp(), putOp("a", "1"), commitOp(), putOp("a", "2"), commitOp(), checkoutOp(1), putOp("b", "3"), commitOp(), checkoutOp(2), rangeOp("", ""), closeOp(), openOp(), rangeOp("", "")}
	o := wantExec(t, "a checkout", 8, impl.Disk{Cap: 9999}, ops)
	wantLast(t, "a checkout", o, impl.Answer{N: 3, Val: rootFor(pairsFrom("a", "1", "b", "3"), 8)}, impl.Answer{},
		impl.Answer{Pairs: pairsFrom("a", "2")}, impl.Answer{}, impl.Answer{N: 3}, impl.Answer{Pairs: pairsFrom("a", "1", "b", "3")})
}

func TestCloseForgetsTheDraft(t *testing.T) {
	ops := []impl.Op{openOp(), putOp("a", "1"), closeOp(), openOp(), rangeOp("", ""), putOp("b", "1"), commitOp(), putOp("c", "1"), closeOp(), openOp(), rangeOp("", ""), getOp("c")}
	o := wantCodes(t, "closing", 8, impl.Disk{Cap: 999}, ops, 0, 0, 0, 0, 0, 0, 0, 0, 0, 0, 0, impl.StoreNone)
	wantLast(t, "closing", o, impl.Answer{N: 1}, impl.Answer{Pairs: pairsFrom("b", "1")}, coded(impl.StoreNone))
	if !sameAnswer(o.Answers[4], impl.Answer{}) {
		t.Error(shownAnswer(o.Answers[4]))
	}
}

// lameLog has versions of which some do not load: 1 lacks the left subtree of its top, 2 is whole, 3 is 1 again.
func lameLog(w int) (commits []commitOf, keys [3]string) {
	keys = forkKeys()
	ps := pairsFrom(keys[0], "1", keys[1], "2", keys[2], "3")
	f := forgedFrom(ps)
	f.left.missing = true
	encs, root := f.write(w)
	whole, good := documentTree(pairsFrom("x", "y"), w)
	return []commitOf{{encs, root}, {whole, good}, {nil, root}, {nil, good}}, keys
}

func TestVersionsThatDoNotLoad(t *testing.T) {
	for _, w := range []int{8, 32} {
		commits, keys := lameLog(w)
		log, _ := logOf(commits)
		hurt := coded(impl.StoreDamaged)
		draft := impl.Answer{Pairs: pairsFrom("draft", "1", "x", "y")}
		ops := []impl.Op{openOp(), putOp("draft", "1"), checkoutOp(1), rangeOp("", ""), checkoutOp(3), rangeOp("", ""),
			proveOp(1, "", ""), proveOp(1, keys[0], keys[1]), proveOp(3, "", keys[1]), diffOp(1, 2), diffOp(2, 1), diffOp(3, 4), rangeOp("", "")}
		o := wantExec(t, "lame", w, safe(log), ops)
		wantLast(t, "lame", o, impl.Answer{N: 4}, impl.Answer{}, hurt, draft, hurt, draft, hurt, hurt, hurt, hurt, hurt, hurt, draft)
		// What need not be loaded is not missed.
		ops = []impl.Op{openOp(), proveOp(1, keys[1], ""), proveOp(3, keys[2], ""), proveOp(1, "b", "a"), diffOp(1, 1), diffOp(1, 3), diffOp(3, 1), diffOp(2, 4), versionsOp(), checkoutOp(2)}
		o = wantCodes(t, "lame, but not there", w, safe(log), ops, make([]int, len(ops))...)
		for at, lo := range map[int]string{1: keys[1], 2: keys[2]} {
			shown, ok := impl.Verify(w, commits[0].root, lo, "", o.Answers[at].Val)
			if !ok || !slices.Equal(shown, pairsBetween(pairsFrom(keys[1], "2", keys[2], "3"), lo, "")) {
				t.Errorf("from %q: %q, %t", lo, shown, ok)
			}
		}
	}
}

// lameCommits are versions that do not load, each for a reason of its own.
func lameCommits(w int) map[string]commitOf {
	missing := documentNode(impl.Node{Key: "a", Left: mixedText(w)})
	keys := forkKeys()
	swapped := forgedFrom(pairsFrom(keys[0], "1", keys[1], "2", keys[2], "3"))
	swapped.left, swapped.right = swapped.right, swapped.left
	encs, root := swapped.write(w)
	many, manyRoot := documentTree(numbered(501), w)
	return map[string]commitOf{
		"missing":        {[]string{missing}, encHash(missing, w)},
		"junk":           {[]string{"junk"}, encHash("junk", w)},
		"in wrong order": {encs, root},
		"too many pairs": {many, manyRoot},
	}
}

func TestOpeningOfALogWhoseLastRootDoesNotLoad(t *testing.T) {
	for what, lame := range lameCommits(8) {
		good := commitOf{[]string{leaf("x", "y")}, encHash(leaf("x", "y"), 8)}
		for _, commits := range [][]commitOf{{lame}, {good, lame}, {good, lame, good, lame}} {
			log, _ := logOf(commits)
			ops := []impl.Op{openOp(), versionsOp(), putOp("a", "1"), openOp(), fuelOp(-1), crashOp(), openOp(), closeOp()}
			o := wantCodes(t, what, 8, safe(log), ops, 7, 1, 1, 7, 0, 0, 7, 1)
			if o.Mode != impl.ModeClosed || o.Disk != safe(log) {
				t.Errorf("%s: mode %d, %s", what, o.Mode, shownDisk(o.Disk))
			}
		}
		// Only the last root is loaded.
		log, _ := logOf([]commitOf{lame, good})
		wantCodes(t, what+" before", 8, safe(log), []impl.Op{openOp(), getOp("x"), checkoutOp(1), getOp("x"), commitOp()}, 0, 0, 7, 0, 0)
		log, _ = logOf([]commitOf{lame, {nil, ""}})
		o := wantCodes(t, what+" before nothing", 8, safe(log), []impl.Op{openOp(), rangeOp("", ""), checkoutOp(1)}, 0, 0, 7)
		wantLast(t, what, o, impl.Answer{N: 2}, impl.Answer{}, coded(impl.StoreDamaged))
	}
}

// The pool keeps the encodings in their order, so that the first of two with one hash counts after an opening, too.
func TestOpeningTakesTheEncodingsInTheirOrder(t *testing.T) {
	enc := leaf("a", "1")
	junk := junkLike(enc, 1)
	for _, c := range []struct {
		encs []string
		code int
	}{{[]string{enc, junk}, impl.StoreOk}, {[]string{junk, enc}, impl.StoreDamaged}} {
		log, _ := logOf([]commitOf{{c.encs, encHash(enc, 1)}})
		wantCodes(t, "order", 1, safe(log), []impl.Op{openOp()}, c.code)
	}
}

// What a log has is not written a second time, also if it is in no version's tree.
func TestCommitOfNodesThatAnOpenedLogHas(t *testing.T) {
	encs, root := documentTree(numbered(5), 8)
	log, _ := logOf([]commitOf{{encs, ""}})
	ops := append([]impl.Op{openOp()}, putOps(numbered(5))...)
	o := wantExec(t, "nodes of before", 8, safe(log), append(ops, commitOp()))
	wantLast(t, "nodes of before", o, impl.Answer{N: 2, Val: root})
	if o.Disk.Now != log+documentCommitRecord(2, root) {
		t.Errorf("%s", shownDisk(o.Disk))
	}
}

// tails are what may stand behind the last commit that is good.
func tails(w int) map[string]string {
	enc := leaf("tail", "1")
	return map[string]string{
		"a byte":                    "x",
		"a zero":                    zeros(1),
		"a sector of zeros":         zeros(64),
		"a node without its commit": documentNodeRecord(enc),
		"a node and a part":         documentNodeRecord(enc) + documentCommitRecord(3, "")[:63],
		"a commit that is too high": documentCommitRecord(4, ""),
		"a commit of before":        documentCommitRecord(2, ""),
		"a commit without its root": documentCommitRecord(3, encHash(enc, w)),
		"a hole and a commit":       zeros(64) + documentNodeRecord(enc) + documentCommitRecord(3, encHash(enc, w)),
		"a byte and a commit":       "x" + documentCommitRecord(3, ""),
	}
}

func TestOpeningOfADiskWithATail(t *testing.T) {
	for _, w := range []int{8, 32} {
		commits := []commitOf{{[]string{leaf("a", "1")}, encHash(leaf("a", "1"), w)}, {[]string{leaf("a", "2")}, encHash(leaf("a", "2"), w)}}
		log, _ := logOf(commits)
		for what, tail := range tails(w) {
			for _, stable := range []int{0, 1, 64, len(log) - 1, len(log), len(log) + 1, len(log) + len(tail)} {
				d := impl.Disk{Stable: (log + tail)[:stable], Now: log + tail, Cap: 9999}
				cut := impl.Disk{Stable: log, Now: log, Cap: d.Cap}
				o := wantExec(t, what, w, d, []impl.Op{openOp(), getOp("a")})
				wantLast(t, what, o, impl.Answer{N: 2}, impl.Answer{Val: "2"})
				if o.Disk != cut {
					t.Errorf("%s: %s", what, shownDisk(o.Disk))
				}
				// The cut is the only disk step.
				o = wantCodes(t, what, w, d, []impl.Op{fuelOp(0), openOp()}, 0, impl.StoreDead)
				if o.Disk != d || o.Mode != impl.ModeDead {
					t.Errorf("%s: %s, mode %d", what, shownDisk(o.Disk), o.Mode)
				}
				o = wantCodes(t, what, w, d, []impl.Op{fuelOp(1), openOp(), closeOp(), openOp(), commitOp()}, 0, 0, 0, 0, impl.StoreDead)
				if o.Disk != cut {
					t.Errorf("%s: %s", what, shownDisk(o.Disk))
				}
			}
		}
		// Nothing is to be cut: no step is made, and Stable stays as it is.
		for _, stable := range []int{0, 1, 64, 128, len(log)} {
			d := impl.Disk{Stable: log[:stable], Now: log, Cap: 9999}
			o := wantCodes(t, "no tail", w, d, []impl.Op{fuelOp(0), openOp(), closeOp(), openOp()}, 0, 0, 0, 0)
			if o.Disk != d {
				t.Errorf("no tail: %s", shownDisk(o.Disk))
			}
		}
	}
}

// The cut stands where what is left does not load.
func TestOpeningOfADamagedDiskWithATail(t *testing.T) {
	for what, lame := range lameCommits(8) {
		log, _ := logOf([]commitOf{{nil, ""}, lame})
		for _, tail := range tails(8) {
			d := impl.Disk{Stable: log[:5], Now: log + tail, Cap: impl.MaxDisk}
			o := wantCodes(t, what, 8, d, []impl.Op{fuelOp(1), openOp(), openOp(), versionsOp()}, 0, 7, 7, 1)
			if o.Disk != safe(log) || o.Mode != impl.ModeClosed {
				t.Errorf("%s: %s, mode %d", what, shownDisk(o.Disk), o.Mode)
			}
			o = wantCodes(t, what, 8, d, []impl.Op{fuelOp(0), openOp()}, 0, impl.StoreDead)
			if o.Disk != d {
				t.Errorf("%s: %s", what, shownDisk(o.Disk))
			}
		}
	}
}

// A root that another width wrote is no root here.
func TestOpeningWithAnotherWidth(t *testing.T) {
	o := impl.Exec(8, impl.Disk{Cap: 9999}, []impl.Op{openOp(), commitOp(), putOp("a", "1"), commitOp()})
	for _, w := range []int{1, 7, 9, 32} {
		other := wantExec(t, "another width", w, o.Disk, []impl.Op{openOp()})
		wantLast(t, "another width", other, impl.Answer{N: 1})
		if len(other.Disk.Now) != 64 {
			t.Errorf("width %d: %s", w, shownDisk(other.Disk))
		}
	}
}
