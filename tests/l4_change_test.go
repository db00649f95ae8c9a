package tests

import (
	"math/rand"
	"slices"
	"strconv"
	"testing"

	"loop.example/s03048/impl"
)

func wantDiff(t *testing.T, what string, p impl.Pool, a string, b string, want []impl.Change, wantCode int) {
	t.Helper()
	got, code := impl.Diff(p, a, b)
	if !slices.Equal(got, want) || code != wantCode {
		t.Errorf("%s: %.200v, code %d\nwant %.200v, code %d", what, got, code, want, wantCode)
	}
}

func wantNoClash(t *testing.T, what string, ps []impl.Pair, qs []impl.Pair, w int) {
	t.Helper()
	if a, b, ok := impl.Clash(ps, qs, w); a != "" || b != "" || ok {
		t.Errorf("%s, width %d: %.60q %.60q %t", what, w, a, b, ok)
	}
}

func TestPutOfAKeyThatIsThereAndOfOneThatIsNot(t *testing.T) {
	for _, w := range []int{8, 32} {
		for what, ps := range edgeMaps() {
			s := impl.Save(poolWith(w, "junk"), ps)
			keys := []string{"\x00", "a", "a\x00", "b", "10007", "10008", "\xff", "zz", mixedText(256)}
			for _, key := range keys {
				for _, val := range []string{"", "1", "new", mixedText(2000)} {
					wantSaved(t, what+", Put", impl.Put(s.Pool, s.Root, key, val), documentPut(s.Pool, s.Root, key, val))
				}
				wantSaved(t, what+", Del", impl.Del(s.Pool, s.Root, key), documentDel(s.Pool, s.Root, key))
			}
		}
	}
}

func TestPutOfWhatIsThereChangesNothing(t *testing.T) {
	ps := numbered(30)
	s := impl.Save(poolWith(8), ps)
	for _, p := range ps {
		wantSaved(t, "the same value", impl.Put(s.Pool, s.Root, p.Key, p.Val), s)
	}
	for _, key := range []string{"1", "10001", "\xff", "10000\x00"} {
		wantSaved(t, "Del of "+key, impl.Del(s.Pool, s.Root, key), s)
	}
}

func TestPutAndDelOfSizes(t *testing.T) {
	s := impl.Save(poolWith(8), numbered(5))
	bad := impl.Saved{Code: impl.TreeBad}
	for _, root := range []string{s.Root, ""} {
		for _, size := range []int{0, 1, 2, 255, 256, 257, 258, 1000, 65537} {
			key := mixedText(size)
			put, del := documentPut(s.Pool, root, key, "v"), documentDel(s.Pool, root, key)
			if size == 0 || size > 256 {
				put, del = bad, bad
			}
			wantSaved(t, "a key of "+strconv.Itoa(size), impl.Put(s.Pool, root, key, "v"), put)
			wantSaved(t, "Del of a key of "+strconv.Itoa(size), impl.Del(s.Pool, root, key), del)
		}
		for _, size := range []int{0, 1, 1999, 2000, 2001, 2002, 65537} {
			want := documentPut(s.Pool, root, "k", mixedText(size))
			if size > 2000 {
				want = bad
			}
			wantSaved(t, "a value of "+strconv.Itoa(size), impl.Put(s.Pool, root, "k", mixedText(size)), want)
			wantSaved(t, "and no key", impl.Put(s.Pool, root, "", mixedText(size)), bad)
		}
	}
}

func TestPutAndDelAtTheGreatestMap(t *testing.T) {
	ps := numbered(500)
	s := impl.Save(poolWith(8), ps)
	many := impl.Saved{Code: impl.TreeMany}
	for _, key := range []string{"0", "10001", ps[3].Key + "\x00", "\xff", mixedText(256)} {
		wantSaved(t, "a new key", impl.Put(s.Pool, s.Root, key, ""), many)
		wantSaved(t, "Del of a key that is not there", impl.Del(s.Pool, s.Root, key), s)
		// The sizes are asked for first.
		wantSaved(t, "a new key with a great value", impl.Put(s.Pool, s.Root, key, mixedText(2001)), impl.Saved{Code: impl.TreeBad})
	}
	wantSaved(t, "no key", impl.Put(s.Pool, s.Root, "", ""), impl.Saved{Code: impl.TreeBad})
	wantSaved(t, "a great key", impl.Put(s.Pool, s.Root, mixedText(257), ""), impl.Saved{Code: impl.TreeBad})
	for _, at := range []int{0, 1, 250, 498, 499} {
		got := impl.Put(s.Pool, s.Root, ps[at].Key, "new")
		wantSaved(t, "a key that is there", got, documentPut(s.Pool, s.Root, ps[at].Key, "new"))
		wantLoad(t, "a key that is there", got.Pool, got.Root, with(ps, ps[at].Key, "new"), impl.TreeOk)
		less := impl.Del(s.Pool, s.Root, ps[at].Key)
		wantLoad(t, "one less", less.Pool, less.Root, without(ps, ps[at].Key), impl.TreeOk)
		more := impl.Put(less.Pool, less.Root, "\xff", "last")
		wantLoad(t, "and one more", more.Pool, more.Root, with(without(ps, ps[at].Key), "\xff", "last"), impl.TreeOk)
	}
}

func TestPutAndDelIntoAFullPool(t *testing.T) {
	const w = 16
	ps := numbered(4)
	encs, root := documentTree(ps, w)
	for _, count := range []int{19997, 19998, 19999, 20000} {
		p := fullPool(w, count, encs...)
		for _, pair := range ps {
			for _, want := range []impl.Pair{{Key: pair.Key, Val: "new"}, pair, {Key: pair.Key + "0", Val: ""}} {
				wantSaved(t, strconv.Itoa(count), impl.Put(p, root, want.Key, want.Val), documentPut(p, root, want.Key, want.Val))
			}
			wantSaved(t, strconv.Itoa(count), impl.Del(p, root, pair.Key), documentDel(p, root, pair.Key))
		}
	}
}

// A collision of a Put or a Del is that of Save, with the pool as it was.
func TestPutAndDelWithACollision(t *testing.T) {
	for _, w := range []int{1, 2} {
		ps := pairsFrom("a", "1", "c", "3", "d", "4", "e", "5")
		encs, root := documentTree(ps, w)
		more, _ := documentTree(with(ps, "b", "2"), w)
		less, _ := documentTree(without(ps, "d"), w)
		for _, enc := range slices.Concat(more, less) {
			if slices.Contains(encs, enc) {
				continue
			}
			p := poolWith(w, append(slices.Clone(encs), junkLike(enc, w))...)
			put, del := impl.Put(p, root, "b", "2"), impl.Del(p, root, "d")
			wantSaved(t, "Put", put, documentPut(p, root, "b", "2"))
			wantSaved(t, "Del", del, documentDel(p, root, "d"))
			collided := put
			if slices.Contains(less, enc) {
				collided = del
			}
			if collided.Code != impl.TreeCollision || !slices.Equal(collided.Pool.Encs, p.Encs) || collided.Root != "" {
				t.Errorf("width %d: %s", w, shownSaved(collided))
			}
			wantTwins(t, "Put or Del", collided.A, collided.B, w)
		}
	}
}

// Promise 9's second sentence, over a long row of Puts and Dels in one pool.
func TestEarlierRootsKeepTheirMaps(t *testing.T) {
	for _, w := range treeWidths() {
		r := rand.New(rand.NewSource(int64(200 + w)))
		p, root := poolWith(w), ""
		var now []impl.Pair
		maps := map[string][]impl.Pair{}
		for step := range 151 {
			key, val := mixedKey(r), mixedVal(r)
			next := with(now, key, val)
			got := impl.Saved{}
			if r.Intn(3) == 0 {
				next = without(now, key)
				got = impl.Del(p, root, key)
				wantSaved(t, "Del", got, documentDel(p, root, key))
			} else {
				got = impl.Put(p, root, key, val)
				wantSaved(t, "Put", got, documentPut(p, root, key, val))
			}
			if got.Code == impl.TreeOk {
				if !slices.Equal(got.Pool.Encs[:len(p.Encs)], p.Encs) || got.Root != impl.Root(next, w) {
					t.Fatalf("width %d: the pool or the root of %d pairs", w, len(next))
				}
				p, root, now = got.Pool, got.Root, next
				maps[root] = now
			}
			if step%25 > 0 {
				continue
			}
			for earlier, ps := range maps {
				wantLoad(t, "an earlier root", p, earlier, ps, impl.TreeOk)
			}
		}
		if len(maps) < 10 {
			t.Errorf("width %d: only %d maps", w, len(maps))
		}
	}
}

func TestDiffOfEqualRoots(t *testing.T) {
	enc := leaf("a", "1")
	for _, p := range []impl.Pool{poolWith(8, enc), poolWith(8), poolWith(0), poolWith(33, enc), poolWith(-1), poolWith(8, make([]string, 20001)...)} {
		for _, root := range []string{"", encHash(enc, 8), "nothing.", "short", mixedText(100)} {
			wantDiff(t, "equal roots", p, root, root, nil, impl.TreeOk)
		}
	}
}

func TestDiffByHand(t *testing.T) {
	a := impl.Save(poolWith(20), pairsFrom("a", "1", "b", "2", "c", "3", "e", "", "f", "6"))
	b := impl.Save(a.Pool, pairsFrom("b", "2", "c", "4", "d", "", "e", "5", "f", ""))
	forth := []impl.Change{
		{Key: "a", Had: true, Old: "1"},
		{Key: "c", Had: true, Old: "3", Has: true, New: "4"},
		{Key: "d", Has: true},
		{Key: "e", Had: true, Has: true, New: "5"},
		{Key: "f", Had: true, Old: "6", Has: true},
	}
	wantDiff(t, "forth", b.Pool, a.Root, b.Root, forth, impl.TreeOk)
	back := []impl.Change{
		{Key: "a", Has: true, New: "1"},
		{Key: "c", Had: true, Old: "4", Has: true, New: "3"},
		{Key: "d", Had: true},
		{Key: "e", Had: true, Old: "5", Has: true},
		{Key: "f", Had: true, Has: true, New: "6"},
	}
	wantDiff(t, "back", b.Pool, b.Root, a.Root, back, impl.TreeOk)
	all := []impl.Change{{Key: "a", Had: true, Old: "1"}, {Key: "b", Had: true, Old: "2"}, {Key: "c", Had: true, Old: "3"}, {Key: "e", Had: true}, {Key: "f", Had: true, Old: "6"}}
	wantDiff(t, "to nothing", b.Pool, a.Root, "", all, impl.TreeOk)
	for i := range all {
		all[i] = impl.Change{Key: all[i].Key, Has: true, New: all[i].Old}
	}
	wantDiff(t, "from nothing", b.Pool, "", a.Root, all, impl.TreeOk)
}

// applied is a map after the changes, which must fit it.
func applied(t *testing.T, ps []impl.Pair, changes []impl.Change) []impl.Pair {
	for i, c := range changes {
		if old, had := valueIn(ps, c.Key); old != c.Old || had != c.Had || !c.Has && c.New != "" || i > 0 && c.Key <= changes[i-1].Key {
			t.Fatalf("change %d of %v does not fit %v", i, changes, ps)
		}
		ps = without(ps, c.Key)
		if c.Has {
			ps = with(ps, c.Key, c.New)
		}
	}
	return ps
}

// Promise 10.
func TestDiffLeadsFromOneMapToTheOther(t *testing.T) {
	for _, w := range treeWidths() {
		r := rand.New(rand.NewSource(int64(300 + w)))
		done := 0
		for range 150 {
			ps, qs := mixedMap(r, 14), mixedMap(r, 14)
			if r.Intn(3) == 0 {
				qs = with(ps, mixedKey(r), mixedVal(r))
			}
			one := impl.Save(poolWith(w), ps)
			two := impl.Save(one.Pool, qs)
			if one.Code != impl.TreeOk || two.Code != impl.TreeOk {
				continue
			}
			done++
			want, _ := documentDiff(two.Pool, one.Root, two.Root)
			wantDiff(t, "width "+strconv.Itoa(w), two.Pool, one.Root, two.Root, want, impl.TreeOk)
			got, _ := impl.Diff(two.Pool, one.Root, two.Root)
			if !slices.Equal(applied(t, ps, got), qs) {
				t.Errorf("width %d: %v does not lead from %v to %v", w, got, ps, qs)
			}
		}
		if done < 10 {
			t.Errorf("width %d: only %d maps were compared", w, done)
		}
	}
}

func TestDiffOfTheGreatestMaps(t *testing.T) {
	ps := numbered(500)
	qs := numbered(500)
	for i := range qs {
		if i%3 == 0 {
			qs[i].Key += "x"
		}
		if i%3 == 1 {
			qs[i].Val += "x"
		}
	}
	one := impl.Save(poolWith(16), ps)
	two := impl.Save(one.Pool, qs)
	want, _ := documentDiff(two.Pool, one.Root, two.Root)
	wantDiff(t, "500 pairs", two.Pool, one.Root, two.Root, want, impl.TreeOk)
	if len(want) != 167*3 {
		t.Errorf("%d changes", len(want))
	}
}

// What is wrong with a is told first, whatever is wrong with b.
func TestDiffWithFaults(t *testing.T) {
	const w = 8
	p := poolWith(w)
	add := func(f *forged) string {
		encs, root := f.write(w)
		p.Encs = append(p.Encs, encs...)
		return root
	}
	roots := map[string]int{
		"short":                                         impl.TreeBad,
		"longer than 8 bytes":                           impl.TreeBad,
		add(&forged{key: "a", missing: true}):           impl.TreeMissing,
		add(&forged{key: "b", junk: true}):              impl.TreeCorrupt,
		add(&forged{key: "c", left: &forged{key: "d"}}): impl.TreeCorrupt,
		add(forgedFrom(numbered(501))):                  impl.TreeMany,
		add(forgedFrom(numbered(3))):                    impl.TreeOk,
		add(forgedFrom(numbered(4))):                    impl.TreeOk,
		"":                                              impl.TreeOk,
	}
	for a, codeA := range roots {
		for b, codeB := range roots {
			want := codeA
			if want == impl.TreeOk {
				want = codeB
			}
			if a == b {
				want = impl.TreeOk
			}
			changes, _ := documentDiff(p, a, b)
			wantDiff(t, "codes "+strconv.Itoa(codeA)+" and "+strconv.Itoa(codeB), p, a, b, changes, want)
		}
	}
	if len(roots) != 9 {
		t.Errorf("%d roots", len(roots))
	}
}

func wantClash(t *testing.T, what string, ps []impl.Pair, qs []impl.Pair, w int) {
	t.Helper()
	wantA, wantB, wantOk := documentClash(ps, qs, w)
	a, b, ok := impl.Clash(ps, qs, w)
	if a != wantA || b != wantB || ok != wantOk || !ok {
		t.Errorf("%s, width %d: %.60q %.60q %t\nwant %.60q %.60q %t", what, w, a, b, ok, wantA, wantB, wantOk)
	}
	wantTwins(t, what, a, b, w)
	b, a, ok = impl.Clash(qs, ps, w)
	if a != wantA || b != wantB || !ok {
		t.Errorf("%s, width %d, the other way: %.60q %.60q %t", what, w, b, a, ok)
	}
}

// otherVal changes the value at one place until the pairs have the root again that they had.
func otherVal(ps []impl.Pair, at int, w int) []impl.Pair {
	_, root := documentTree(ps, w)
	qs := slices.Clone(ps)
	for i := range 1000000 {
		qs[at].Val = "other" + strconv.Itoa(i)
		if _, other := documentTree(qs, w); other == root {
			return qs
		}
	}
	panic("no value gives the root again")
}

// twinMaps are a map and one with the same root, with the difference in the subtree of the pairs from..to, of which the value at one place is changed.
func twinMaps(ps []impl.Pair, from int, to int, at int, w int) []impl.Pair {
	return slices.Concat(ps[:from], otherVal(ps[from:to], at-from, w), ps[to:])
}

func TestClashAtTheTopAndInBothSubtrees(t *testing.T) {
	ps := numbered(7)
	top := topOf(ps)
	if top == 0 || top == 6 {
		t.Fatalf("the top is at %d", top)
	}
	for _, w := range []int{1, 2} {
		wantClash(t, "the value at the top", ps, twinMaps(ps, 0, 7, top, w), w)
		left := twinMaps(ps, 0, top, topOf(ps[:top]), w)
		right := twinMaps(ps, top+1, 7, top+1+topOf(ps[top+1:]), w)
		wantClash(t, "in the left subtree", ps, left, w)
		wantClash(t, "in the right subtree", ps, right, w)
		both := slices.Concat(left[:top+1], right[top+1:])
		wantClash(t, "in both subtrees", ps, both, w)
		wantClash(t, "left and both", left, both, w)
		wantClash(t, "right and both", right, both, w)
		wantClash(t, "left and right", left, right, w)
	}
}

// greaterSide is the greater of the two subtrees of the tree of the pairs from..to.
func greaterSide(ps []impl.Pair, from int, to int) (int, int) {
	top := from + topOf(ps[from:to])
	if top-from >= to-top-1 {
		return from, top
	}
	return top + 1, to
}

// A value deep down makes all encodings above it differ, unless its own hash stays.
func TestClashFartherDown(t *testing.T) {
	ps := numbered(9)
	for at := range ps {
		// At width 1 the whole row of hashes above changes until the root is the same again.
		wantClash(t, "the value at "+strconv.Itoa(at), ps, otherVal(ps, at, 1), 1)
	}
	for _, w := range []int{1, 2} {
		for from, to := greaterSide(ps, 0, len(ps)); to-from > 0; from, to = greaterSide(ps, from, to) {
			wantClash(t, "a subtree", ps, twinMaps(ps, from, to, from+topOf(ps[from:to]), w), w)
		}
	}
}

// Maps of other keys and other sizes with one root.
func TestClashOfMapsThatHaveLittleInCommon(t *testing.T) {
	for _, w := range []int{1, 2} {
		seen := map[string][]impl.Pair{}
		found := 0
		for i := 0; found < 60; i++ {
			r := rand.New(rand.NewSource(int64(i)))
			ps := mixedMap(r, 5)
			_, root := documentTree(ps, w)
			if other, ok := seen[root]; ok && !slices.Equal(ps, other) {
				found++
				wantClash(t, "mixed maps", other, ps, w)
			}
			seen[root] = ps
		}
	}
}

// The subtrees below equal tops may have different numbers of nodes.
func TestClashOfSubtreesOfDifferentSizes(t *testing.T) {
	top := sinking(12, 20)
	for _, w := range []int{1, 2} {
		small := pairsFrom("c", "1")
		_, hash := documentTree(small, w)
		great := pairsFrom("a", "", "b", "2", "d", "3")
		for i := 0; ; i++ {
			great[0].Val = strconv.Itoa(i)
			if _, other := documentTree(great, w); other == hash {
				break
			}
		}
		for _, ends := range [][]impl.Pair{nil, pairsFrom(top[1], "end")} {
			ps := slices.Concat(small, pairsFrom(top[0], "top"), ends)
			qs := slices.Concat(great, pairsFrom(top[0], "top"), ends)
			if topOf(ps) != 1 || topOf(qs) != 3 {
				t.Fatal("the tops")
			}
			wantClash(t, "a left subtree of one and of three", ps, qs, w)
		}
	}
}

func TestMapsThatDoNotClash(t *testing.T) {
	for _, w := range treeWidths() {
		for what, ps := range edgeMaps() {
			wantNoClash(t, what+" and itself", ps, ps, w)
			wantNoClash(t, what+" and its like", ps, slices.Clone(ps), w)
			for other, qs := range edgeMaps() {
				if _, _, ok := documentClash(ps, qs, w); !ok {
					wantNoClash(t, what+" and "+other, ps, qs, w)
				}
			}
		}
		wantNoClash(t, "empty maps", nil, []impl.Pair{}, w)
	}
	for i := range 300 {
		ps, qs := pairsFrom("a", "1", "b", "2"), pairsFrom("a", "1", "b", "x"+strconv.Itoa(i))
		if _, _, ok := documentClash(ps, qs, 1); !ok {
			wantNoClash(t, "different roots", ps, qs, 1)
		}
		wantNoClash(t, "a great width", ps, qs, 32)
	}
}

// So many maps that, at width 1, each hash is the root of one: whatever is made of a list that is no map, it clashes with none.
func TestWhatIsNoMapClashesWithNoMap(t *testing.T) {
	roots := map[string]int{}
	bad := noMaps()
	for i := range 4000 {
		ps := pairsFrom("q", strconv.Itoa(i))
		roots[impl.Root(ps, 1)]++
		if roots[impl.Root(ps, 1)] > 1 {
			continue
		}
		for what, qs := range bad {
			wantNoClash(t, what, ps, qs, 1)
			wantNoClash(t, what, qs, ps, 1)
		}
	}
	if len(roots) != 256 {
		t.Errorf("%d roots", len(roots))
	}
}
