package impl

import (
	"slices"
	"strconv"
	"strings"
	"testing"
)

// knot is a node of a test, so that the walk is held to no tree of the program.
type knot struct {
	name  string
	left  *knot
	right *knot
}

func (k *knot) subtrees() (*knot, *knot) {
	return k.left, k.right
}

func manyKnots() *knot {
	return &knot{name: "d",
		left:  &knot{name: "b", left: &knot{name: "a"}, right: &knot{name: "c"}},
		right: &knot{name: "f", left: &knot{name: "e"}, right: &knot{name: "g"}}}
}

func TestTheWalkAtEachMoment(t *testing.T) {
	for when, want := range []string{before: "dbacfeg", between: "abcdefg", behind: "acbegfd"} {
		var seen strings.Builder
		whole := walk(manyKnots(), func(k *knot) bool { return k != nil }, func(k *knot, now moment) bool {
			if now == moment(when) {
				seen.WriteString(k.name)
			}
			return true
		})
		if seen.String() != want || !whole {
			t.Errorf("moment %d: %s, want %s, %t", when, seen.String(), want, whole)
		}
	}
}

func TestTheWalkGoesOnlyWhereItIsTold(t *testing.T) {
	var asked, seen []string
	into := func(k *knot) bool {
		if k == nil {
			return false
		}
		asked = append(asked, k.name)
		return k.name != "b" && k.name != "g"
	}
	whole := walk(manyKnots(), into, func(k *knot, when moment) bool {
		seen = append(seen, k.name+strconv.Itoa(int(when)))
		return true
	})
	if strings.Join(asked, "") != "dbfeg" || strings.Join(seen, "") != "d0d1f0e0e1e2f1f2d2" || !whole {
		t.Errorf("asked %v, seen %v, %t", asked, seen, whole)
	}
}

func TestTheWalkEndsWhereItIsTold(t *testing.T) {
	var all []string
	at := func(stop int) func(*knot, moment) bool {
		all = nil
		return func(k *knot, when moment) bool {
			all = append(all, k.name+strconv.Itoa(int(when)))
			return len(all) != stop
		}
	}
	isThere := func(k *knot) bool { return k != nil }
	walk(manyKnots(), isThere, at(0))
	whole := all
	for stop := 1; stop <= len(whole); stop++ {
		if walk(manyKnots(), isThere, at(stop)) || !slices.Equal(all, whole[:stop]) {
			t.Errorf("stopped at %d: %v", stop, all)
		}
	}
}

// What a walk finds at a node may be what makes its subtrees.
func TestTheWalkAsksForSubtreesAfterTheNode(t *testing.T) {
	count := 0
	walk(&knot{}, func(k *knot) bool { return k != nil }, func(k *knot, when moment) bool {
		if when == before && count < 10 {
			count++
			k.right = &knot{}
		}
		return true
	})
	if count != 10 {
		t.Errorf("%d nodes", count)
	}
}

func somePairs(count int) []Pair {
	var ps []Pair
	for i := range count {
		ps = append(ps, Pair{Key: strconv.Itoa(2000 + 2*i), Val: strconv.Itoa(i)})
	}
	return ps
}

func allOf(t *tree) []*tree {
	var all []*tree
	walk(t, isThere, func(t *tree, when moment) bool {
		if when == before {
			all = append(all, t)
		}
		return true
	})
	return all
}

func wantShape(t *testing.T, what string, tr *tree, ps []Pair) {
	t.Helper()
	if !slices.Equal(pairsOf(tr), ps) {
		t.Fatalf("%s: %v, want %v", what, pairsOf(tr), ps)
	}
	for _, n := range allOf(tr) {
		for _, below := range []*tree{n.left, n.right} {
			if below != nil && !Higher(n.pair.Key, below.pair.Key) {
				t.Fatalf("%s: %q stands below %q", what, below.pair.Key, n.pair.Key)
			}
		}
	}
}

func TestSplitAndMergeAtEveryPlace(t *testing.T) {
	ps := somePairs(40)
	whole := treeOf(ps)
	addHashes(whole, 8)
	for at := range 81 {
		key := strconv.Itoa(1999 + at)
		less, rest := split(whole, key)
		cut := at / 2
		wantShape(t, "less than "+key, less, ps[:cut])
		wantShape(t, "not less than "+key, rest, ps[cut:])
		again := merge(less, rest)
		wantShape(t, "both again", again, ps)
		addHashes(again, 8)
		if again.hash != whole.hash {
			t.Errorf("split at %s and merged: another root", key)
		}
	}
}

// Only the nodes on the way to the key are new; all others are shared.
func TestSplitSharesSubtrees(t *testing.T) {
	ps := somePairs(200)
	whole := treeOf(ps)
	old := allOf(whole)
	for i, p := range ps {
		less, rest := split(whole, p.Key)
		fresh := 0
		for _, n := range slices.Concat(allOf(less), allOf(rest)) {
			if !slices.Contains(old, n) {
				fresh++
			}
		}
		if fresh > 40 {
			t.Errorf("split at %d: %d new nodes", i, fresh)
		}
	}
	wantShape(t, "the tree that was split", whole, ps)
}

func TestPutAndDelLeaveTheTreeAsItWas(t *testing.T) {
	ps := somePairs(60)
	whole := treeOf(ps)
	addHashes(whole, 8)
	root := whole.hash
	for i, p := range ps {
		more := put(whole, Pair{Key: p.Key + "x", Val: "new"})
		wantShape(t, "put", more, slices.Insert(slices.Clone(ps), i+1, Pair{Key: p.Key + "x", Val: "new"}))
		set := slices.Clone(ps)
		set[i].Val = "set"
		wantShape(t, "set", put(whole, set[i]), set)
		wantShape(t, "del", del(whole, p.Key), slices.Delete(slices.Clone(ps), i, i+1))
		if back := del(more, p.Key+"x"); !slices.Equal(pairsOf(back), ps) {
			t.Errorf("put and del of %s: %v", p.Key, pairsOf(back))
		}
		wantShape(t, "the tree", whole, ps)
	}
	addHashes(whole, 8)
	if whole.hash != root || rootOf(whole) != Root(ps, 8) {
		t.Error("the root has changed")
	}
	if del(whole, "none") != whole || merge(whole, nil) != whole || merge(nil, whole) != whole {
		t.Error("a tree with nothing new is a new one")
	}
}

// Hashes that are there already are not made again, and what is new has none yet.
func TestHashesFollowTheChanges(t *testing.T) {
	ps := somePairs(100)
	whole := treeOf(ps)
	addHashes(whole, 32)
	next := put(whole, Pair{Key: ps[50].Key, Val: "new"})
	for _, n := range allOf(next) {
		if n.enc != "" && !slices.Contains(allOf(whole), n) {
			t.Error("a new node has an encoding of before")
		}
	}
	addHashes(next, 32)
	want := slices.Clone(ps)
	want[50].Val = "new"
	if rootOf(next) != Root(want, 32) || rootOf(whole) != Root(ps, 32) {
		t.Error("the roots")
	}
}

func TestASaveThatFailsLeavesTheStock(t *testing.T) {
	old := stockOf(Pool{W: 8, Encs: make([]string, maxEncs-2)})
	for _, count := range []int{1, 2, 3, 5} {
		s := save(old, treeOf(somePairs(count)))
		want := TreeOk
		if count > 2 {
			want = TreeBad
		}
		if s.code != want || len(old.encs) != maxEncs-2 || len(old.known.first) != 1 {
			t.Errorf("%d pairs: code %d, %d encodings", count, s.code, len(old.encs))
		}
	}
}

func TestStocksKnowTheFirstOfAHash(t *testing.T) {
	given := make([]string, 2, 10)
	given[0], given[1] = "one", "two"
	s := stockOf(Pool{W: 1, Encs: given})
	s.add("three")
	if given[:3][2] != "" || len(s.encs) != 3 {
		t.Error("the list of the argument is that of the stock")
	}
	for _, enc := range s.encs {
		first, found := s.first(encodingDigest(enc, 1))
		if !found || encodingDigest(first, 1) != encodingDigest(enc, 1) {
			t.Errorf("%s: %q %t", enc, first, found)
		}
	}
	if first, found := s.first(encodingDigest("one", 2)); first != "" || found {
		t.Errorf("a hash of another size: %q", first)
	}
}
