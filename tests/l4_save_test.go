package tests

import (
	"math/rand"
	"slices"
	"strconv"
	"testing"

	"loop.example/s03048/impl"
)

func treeWidths() []int {
	return []int{1, 2, 8, 32}
}

// noMaps have one thing wrong each.
func noMaps() map[string][]impl.Pair {
	great := numbered(501)
	return map[string][]impl.Pair{
		"501 pairs":                  great,
		"501 empty pairs":            make([]impl.Pair, 501),
		"5000 pairs":                 numbered(5000),
		"an empty key":               pairsFrom("", "1"),
		"an empty key first":         pairsFrom("", "1", "a", "2"),
		"an empty key later":         pairsFrom("a", "1", "", "2"),
		"a key of 257 bytes":         pairsFrom(mixedText(257), "1"),
		"a later key of 257 bytes":   pairsFrom("\x00", "", mixedText(257), "1"),
		"a key of 1000 bytes":        pairsFrom(mixedText(1000), "1"),
		"a value of 2001 bytes":      pairsFrom("a", mixedText(2001)),
		"a later value of 2001":      pairsFrom("a", "", "b", mixedText(2001)),
		"a value of 65537 bytes":     pairsFrom("a", mixedText(65537)),
		"a key twice":                pairsFrom("a", "1", "a", "1"),
		"a key twice, other values":  pairsFrom("a", "1", "a", "2"),
		"a lesser key":               pairsFrom("b", "1", "a", "2"),
		"a lesser key at the end":    pairsFrom("a", "1", "c", "2", "b", "3"),
		"a lesser key in the middle": pairsFrom("b", "1", "a", "2", "c", "3"),
		"a beginning behind":         pairsFrom("ab", "1", "a", "2"),
		"one zero less behind":       pairsFrom("a\x00", "1", "a", "2"),
		"a high byte before":         pairsFrom("\x80", "1", "\x7f", "2"),
		"the last pair of 500 twice": append(numbered(499), numbered(499)[498]),
	}
}

// edgeMaps are maps at the bounds of what is one.
func edgeMaps() map[string][]impl.Pair {
	return map[string][]impl.Pair{
		"no list":               nil,
		"no pair":               {},
		"one pair":              pairsFrom("a", "1"),
		"an empty value":        pairsFrom("a", ""),
		"a key of 256 bytes":    pairsFrom(mixedText(256), "1"),
		"a value of 2000 bytes": pairsFrom("a", mixedText(2000)),
		"a zero":                pairsFrom("\x00", ""),
		"zeros":                 pairsFrom("\x00", "1", "\x00\x00", "2", "\x00\x00\x00", "3"),
		"one zero more":         pairsFrom("a", "1", "a\x00", "2", "a\x00\x00", "3", "b", "4"),
		"high bytes":            pairsFrom("\x7f", "1", "\x80", "2", "\xff", "3", "\xff\xff", "4"),
		"equal values":          pairsFrom("a", "x", "b", "x", "c", "x"),
		"499 pairs":             numbered(499),
		"500 pairs":             numbered(500),
	}
}

func TestWhatIsNoMap(t *testing.T) {
	good, bad := pairsFrom("a", "1"), noMaps()
	for what, ps := range bad {
		for _, w := range treeWidths() {
			if got := impl.Root(ps, w); got != "" {
				t.Errorf("%s, width %d: root %q", what, w, got)
			}
			wantSaved(t, what, impl.Save(poolWith(w), ps), impl.Saved{Code: impl.TreeBad})
			wantSaved(t, what, impl.Save(poolWith(w, "junk", leaf("a", "1")), ps), impl.Saved{Code: impl.TreeBad})
			wantNoClash(t, what, ps, good, w)
			wantNoClash(t, what, good, ps, w)
			wantNoClash(t, what, nil, ps, w)
			wantNoClash(t, what, ps, nil, w)
			for other, qs := range bad {
				wantNoClash(t, what+" and "+other, ps, qs, w)
			}
		}
	}
}

func TestRootAndClashAtNoWidth(t *testing.T) {
	for _, w := range noWidths() {
		for what, ps := range edgeMaps() {
			if got := impl.Root(ps, w); got != "" {
				t.Errorf("%s, width %d: root %q", what, w, got)
			}
			wantNoClash(t, what, ps, pairsFrom("q", "1"), w)
			wantNoClash(t, what, pairsFrom("q", "1"), ps, w)
		}
	}
}

func TestRootsThatAreKnown(t *testing.T) {
	ps := pairsFrom("a", "1", "b", "2", "c", "3", "d", "4", "e", "")
	wantHex(t, "width 1", impl.Root(ps, 1), "3d")
	wantHex(t, "width 2", impl.Root(ps, 2), "c8fc")
	wantHex(t, "width 8", impl.Root(ps, 8), "51fba5b4b0342837")
	wantHex(t, "width 32", impl.Root(ps, 32), "47f4f676ff80e53caffa2db953553303c6c07e6c60ae1105ba8c6c572ecb9b48")
}

func TestRootIsThatOfTheTree(t *testing.T) {
	for w := 1; w <= 32; w++ {
		for what, ps := range edgeMaps() {
			_, want := documentTree(ps, w)
			if got := impl.Root(ps, w); got != want {
				t.Errorf("%s, width %d: %x, want %x", what, w, got, want)
			}
		}
	}
	for _, w := range treeWidths() {
		for count := range 120 {
			_, want := documentTree(numbered(count), w)
			if got := impl.Root(numbered(count), w); got != want {
				t.Errorf("%d pairs, width %d: %x, want %x", count, w, got, want)
			}
		}
	}
}

// The highest key is at the top, also where keys have long hashes in common or stand in a line.
func TestTheHighestKeyIsAtTheTop(t *testing.T) {
	ps := numbered(500)
	top := topOf(ps)
	for _, w := range treeWidths() {
		left, right := impl.Root(ps[:top], w), impl.Root(ps[top+1:], w)
		n := impl.Node{Key: ps[top].Key, Val: ps[top].Val, Left: left, Right: right}
		if got := impl.Root(ps, w); got != impl.NodeHash(n, w) || len(got) != w {
			t.Errorf("width %d: %x", w, got)
		}
	}
	for _, ps := range [][]impl.Pair{line(60, true), line(60, false)} {
		for _, w := range treeWidths() {
			encs, want := documentTree(ps, w)
			if got := impl.Root(ps, w); got != want || len(encs) != len(ps) {
				t.Errorf("a line of %d, width %d: %x, want %x", len(ps), w, got, want)
			}
		}
	}
}

// line is a map whose tree is a line to the right, or one to the left.
func line(most int, toRight bool) []impl.Pair {
	var keys []string
	for i := range 100000 {
		keys = append(keys, "k"+strconv.Itoa(100000+i))
	}
	if !toRight {
		slices.Reverse(keys)
	}
	var ps []impl.Pair
	step := len(keys) / most
	for i := 0; i+step <= len(keys) && len(ps) < most; i += step {
		best := ""
		for _, key := range keys[i : i+step] {
			if (len(ps) == 0 || documentHigher(ps[len(ps)-1].Key, key)) && (best == "" || documentHigher(key, best)) {
				best = key
			}
		}
		if best != "" {
			ps = append(ps, impl.Pair{Key: best, Val: "v"})
		}
	}
	slices.SortFunc(ps, byKey)
	return ps
}

func TestSaveIntoAnEmptyPool(t *testing.T) {
	for _, w := range []int{8, 31, 32} {
		for what, ps := range edgeMaps() {
			encs, root := documentTree(ps, w)
			want := impl.Saved{Pool: poolWith(w, encs...), Root: root}
			wantSaved(t, what, impl.Save(poolWith(w), ps), want)
			wantSaved(t, what+", an empty list", impl.Save(impl.Pool{W: w, Encs: []string{}}, ps), want)
			wantLoad(t, what, want.Pool, root, ps, impl.TreeOk)
		}
	}
}

// A tree of five by hand: the order is left subtree, right subtree, node.
func TestSaveKeepsTheOrder(t *testing.T) {
	const w = 20
	ps := pairsFrom("a", "1", "b", "2", "c", "3", "d", "4", "e", "5")
	// The order from the top is a, e, b, c, d.
	d := leaf("d", "4")
	c := documentNode(impl.Node{Key: "c", Val: "3", Right: encHash(d, w)})
	b := documentNode(impl.Node{Key: "b", Val: "2", Right: encHash(c, w)})
	e := documentNode(impl.Node{Key: "e", Val: "5", Left: encHash(b, w)})
	a := documentNode(impl.Node{Key: "a", Val: "1", Right: encHash(e, w)})
	wantSaved(t, "all new", impl.Save(poolWith(w), ps), impl.Saved{Pool: poolWith(w, d, c, b, e, a), Root: encHash(a, w)})
	wantSaved(t, "some there", impl.Save(poolWith(w, a, "junk", c), ps),
		impl.Saved{Pool: poolWith(w, a, "junk", c, d, b, e), Root: encHash(a, w)})
	wantSaved(t, "all there", impl.Save(poolWith(w, a, b, c, d, e, "junk", a), ps),
		impl.Saved{Pool: poolWith(w, a, b, c, d, e, "junk", a), Root: encHash(a, w)})
	fork := forkKeys()
	left, right := leaf(fork[0], "1"), leaf(fork[2], "3")
	top := documentNode(impl.Node{Key: fork[1], Val: "2", Left: encHash(left, w), Right: encHash(right, w)})
	wantSaved(t, "a fork", impl.Save(poolWith(w, "x"), pairsFrom(fork[0], "1", fork[1], "2", fork[2], "3")),
		impl.Saved{Pool: poolWith(w, "x", left, right, top), Root: encHash(top, w)})
}

// forkKeys are three keys of which the middle one is the highest.
func forkKeys() [3]string {
	for i := 0; ; i++ {
		keys := [3]string{"d" + strconv.Itoa(i), "m" + strconv.Itoa(i), "s" + strconv.Itoa(i)}
		if documentHigher(keys[1], keys[0]) && documentHigher(keys[1], keys[2]) {
			return keys
		}
	}
}

func TestSaveWithWhatIsThereAlready(t *testing.T) {
	for _, w := range []int{8, 32} {
		for what, ps := range edgeMaps() {
			first := impl.Save(poolWith(w, "junk", ""), ps)
			wantSaved(t, what+", again", impl.Save(first.Pool, ps), first)
			more := with(without(ps, "10007"), "10008", "new")
			if len(more) <= 500 {
				second := impl.Save(first.Pool, more)
				wantSaved(t, what+", another map", second, documentSave(first.Pool, more))
				wantSaved(t, what+", the first map again", impl.Save(second.Pool, ps), impl.Saved{Pool: second.Pool, Root: first.Root})
			}
		}
	}
}

func TestSaveIntoWhatIsNoPool(t *testing.T) {
	for _, ps := range [][]impl.Pair{nil, pairsFrom("a", "1"), numbered(20)} {
		for _, w := range noWidths() {
			wantSaved(t, "no width", impl.Save(poolWith(w), ps), impl.Saved{Code: impl.TreeBad})
			wantSaved(t, "no width", impl.Save(poolWith(w, leaf("a", "1")), ps), impl.Saved{Code: impl.TreeBad})
		}
		wantSaved(t, "20001 encodings", impl.Save(poolWith(8, make([]string, 20001)...), ps), impl.Saved{Code: impl.TreeBad})
	}
	full := append(make([]string, 20000), leaf("a", "1"))
	wantSaved(t, "20001 with all that is needed", impl.Save(poolWith(8, full...), pairsFrom("a", "1")), impl.Saved{Code: impl.TreeBad})
}

// fullPool has count encodings, the given ones at its end.
func fullPool(w int, count int, encs ...string) impl.Pool {
	out := make([]string, 0, count)
	for i := range count - len(encs) {
		out = append(out, "filling"+strconv.Itoa(i))
	}
	return poolWith(w, append(out, encs...)...)
}

func TestSaveIntoAFullPool(t *testing.T) {
	const w = 16
	ps := numbered(3)
	encs, root := documentTree(ps, w)
	bad := impl.Saved{Code: impl.TreeBad}
	for _, count := range []int{19996, 19997, 19998, 19999, 20000} {
		p := fullPool(w, count)
		want := bad
		if count+3 <= 20000 {
			want = impl.Saved{Pool: poolWith(w, append(slices.Clone(p.Encs), encs...)...), Root: root}
		}
		what := strconv.Itoa(count) + " encodings"
		wantSaved(t, what, impl.Save(p, ps), want)
		wantSaved(t, what+", the empty map", impl.Save(p, nil), impl.Saved{Pool: p})
		all := fullPool(w, count, encs...)
		wantSaved(t, what+", all there", impl.Save(all, ps), impl.Saved{Pool: all, Root: root})
		for at := range encs {
			some := fullPool(w, count, slices.Delete(slices.Clone(encs), at, at+1)...)
			want := bad
			if count < 20000 {
				want = impl.Saved{Pool: poolWith(w, append(slices.Clone(some.Encs), encs[at])...), Root: root}
			}
			wantSaved(t, what+", one not there", impl.Save(some, ps), want)
		}
	}
}

// Which comes first of a full pool and a collision is decided by the order of the nodes; at one node it is the collision.
func TestSaveIntoAFullPoolWithACollision(t *testing.T) {
	const w = 2
	ps := numbered(5)
	encs, _ := documentTree(ps, w)
	for at, enc := range encs {
		junk := junkLike(enc, w)
		for _, count := range []int{19999, 20000} {
			p := impl.Pool{W: w}
			for range count - 1 {
				p.Encs = append(p.Encs, "same")
			}
			p.Encs = append(p.Encs, junk)
			want := impl.Saved{Code: impl.TreeBad}
			if at <= 20000-count {
				want = impl.Saved{Code: impl.TreeCollision, Pool: p, A: "N" + junk, B: "N" + enc}
			}
			wantSaved(t, "node "+strconv.Itoa(at)+", "+strconv.Itoa(count)+" encodings", impl.Save(p, ps), want)
		}
	}
}

// wantTwins holds a collision to promise 7.
func wantTwins(t *testing.T, what string, a string, b string, w int) {
	t.Helper()
	if a == b || a == "" || b == "" || a[0] != 'N' || b[0] != 'N' || librarySum(a)[:w] != librarySum(b)[:w] || impl.Digest(a, w) != impl.Digest(b, w) {
		t.Errorf("%s, width %d: %.80q and %.80q are no two texts with one hash", what, w, a, b)
	}
}

func TestSaveWithACollisionInThePool(t *testing.T) {
	for _, w := range []int{1, 2} {
		ps := numbered(4)
		encs, _ := documentTree(ps, w)
		for at, enc := range encs {
			junk := junkLike(enc, w)
			twin := junkLike(junk+"!", w)
			for _, p := range []impl.Pool{
				poolWith(w, junk), poolWith(w, junk, enc), poolWith(w, junk, enc, enc, junk), poolWith(w, twin, junk),
				poolWith(w, append(slices.Clone(encs[:at]), junk, enc)...),
			} {
				want := documentSave(p, ps)
				got := impl.Save(p, ps)
				wantSaved(t, "node "+strconv.Itoa(at), got, want)
				wantTwins(t, "node "+strconv.Itoa(at), got.A, got.B, w)
				if got.Code != impl.TreeCollision {
					t.Errorf("node %d, width %d: code %d", at, w, got.Code)
				}
			}
			behind := poolWith(w, enc, junk, enc)
			wantSaved(t, "the node's encoding first", impl.Save(behind, ps), documentSave(behind, ps))
		}
	}
}

// The first of two collisions, in the order of the nodes, is the answer.
func TestSaveWithTwoCollisions(t *testing.T) {
	const w = 2
	ps := numbered(6)
	encs, _ := documentTree(ps, w)
	for i := range encs {
		for j := i + 1; j < len(encs); j++ {
			one, two := junkLike(encs[i], w), junkLike(encs[j], w)
			p := poolWith(w, two, one)
			wantSaved(t, "two collisions", impl.Save(p, ps),
				impl.Saved{Code: impl.TreeCollision, Pool: p, A: "N" + one, B: "N" + encs[i]})
		}
	}
}

// Maps of which two nodes have one hash, at any places of the tree.
func TestSaveWithACollisionOfItsOwn(t *testing.T) {
	for _, w := range []int{1, 2} {
		found := 0
		for i := 0; i < 4000 && found < 60; i++ {
			ps := numbered(6)
			for j := range ps {
				ps[j].Val = strconv.Itoa(i*j) + "."
			}
			p := poolWith(w, "junk")
			want := documentSave(p, ps)
			got := impl.Save(p, ps)
			wantSaved(t, "map "+strconv.Itoa(i), got, want)
			if want.Code != impl.TreeCollision || want.A == "Njunk" {
				continue
			}
			found++
			wantTwins(t, "map "+strconv.Itoa(i), got.A, got.B, w)
		}
		if found == 0 {
			t.Errorf("width %d: no map with a collision", w)
		}
	}
}

// Save after Save, with all that the document says of each.
func TestSavesOneAfterTheOther(t *testing.T) {
	for _, w := range treeWidths() {
		r := rand.New(rand.NewSource(int64(w)))
		counts := map[int]int{}
		for range 60 {
			p := poolWith(w, "junk", "")
			roots := map[string][]impl.Pair{}
			for range 8 {
				ps := mixedMap(r, 12)
				got := impl.Save(p, ps)
				wantSaved(t, "width "+strconv.Itoa(w), got, documentSave(p, ps))
				counts[got.Code]++
				if got.Code == impl.TreeOk {
					p = got.Pool
					roots[got.Root] = ps
				} else {
					wantTwins(t, "a mixed map", got.A, got.B, w)
				}
				for root, ps := range roots {
					wantLoad(t, "width "+strconv.Itoa(w), p, root, ps, impl.TreeOk)
				}
			}
		}
		if counts[impl.TreeOk] < 20 || w == 1 && counts[impl.TreeCollision] < 20 {
			t.Errorf("width %d: too few kinds of answers: %v", w, counts)
		}
	}
}

// Promise 6: whatever the order of the Puts and Dels, and in any pool.
func TestAMapHasOneRoot(t *testing.T) {
	for _, w := range treeWidths() {
		r := rand.New(rand.NewSource(int64(100 + w)))
		done := 0
		for range 40 {
			ps := mixedMap(r, 12)
			for _, p := range []impl.Pool{poolWith(w), poolWith(w, "junk", leaf("a", "1"), leaf("zz", "2"))} {
				root, ok := madeInSomeOrder(t, r, p, ps)
				if !ok {
					continue
				}
				done++
				if root != impl.Root(ps, w) {
					t.Errorf("width %d, %d pairs: %x, want %x", w, len(ps), root, impl.Root(ps, w))
				}
			}
		}
		if done < 10 {
			t.Errorf("width %d: only %d maps were made", w, done)
		}
	}
}

// madeInSomeOrder makes a map by Puts and Dels, with some that are undone on the way.
func madeInSomeOrder(t *testing.T, r *rand.Rand, p impl.Pool, ps []impl.Pair) (string, bool) {
	root := ""
	step := func(s impl.Saved) bool {
		p, root = s.Pool, s.Root
		return s.Code == impl.TreeOk
	}
	other := "other" + strconv.Itoa(r.Intn(5))
	todo := []func() bool{}
	for _, pair := range ps {
		todo = append(todo, func() bool {
			return (r.Intn(2) == 0 || step(impl.Put(p, root, pair.Key, "for now"))) && step(impl.Put(p, root, pair.Key, pair.Val))
		})
	}
	todo = append(todo, func() bool { return step(impl.Put(p, root, other, "gone later")) })
	r.Shuffle(len(todo), func(i int, j int) { todo[i], todo[j] = todo[j], todo[i] })
	for _, do := range todo {
		if !do() {
			return "", false
		}
	}
	ok := step(impl.Del(p, root, other))
	return root, ok
}
