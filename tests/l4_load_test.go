package tests

import (
	"math/rand"
	"slices"
	"strconv"
	"testing"

	"loop.example/s03048/impl"
)

// forged is a tree that need not be one of a map: its nodes stand where they are put.
type forged struct {
	key, val    string
	left, right *forged
	missing     bool
	junk        bool
}

// forgedFrom is the tree of a map.
func forgedFrom(ps []impl.Pair) *forged {
	if len(ps) == 0 {
		return nil
	}
	top := topOf(ps)
	return &forged{key: ps[top].Key, val: ps[top].Val, left: forgedFrom(ps[:top]), right: forgedFrom(ps[top+1:])}
}

// write gives the encodings that are in the pool, and the root.
func (f *forged) write(w int) ([]string, string) {
	if f == nil {
		return nil, ""
	}
	one, left := f.left.write(w)
	two, right := f.right.write(w)
	enc := documentNode(impl.Node{Key: f.key, Val: f.val, Left: left, Right: right})
	if f.junk {
		enc += "junk"
	}
	encs := slices.Concat(one, two)
	if !f.missing {
		encs = append(encs, enc)
	}
	return encs, encHash(enc, w)
}

func (f *forged) pool(w int) (impl.Pool, string) {
	encs, root := f.write(w)
	return poolWith(w, encs...), root
}

// nodes are those of the tree in the order in which Load goes through them.
func (f *forged) nodes() []*forged {
	if f == nil {
		return nil
	}
	return slices.Concat([]*forged{f}, f.left.nodes(), f.right.nodes())
}

func wantForged(t *testing.T, what string, f *forged, wantCode int) {
	t.Helper()
	for _, w := range []int{8, 32} {
		p, root := f.pool(w)
		wantLoad(t, what, p, root, nil, wantCode)
		wantSaved(t, what+", Put", impl.Put(p, root, "key", "val"), impl.Saved{Code: wantCode})
		wantSaved(t, what+", Put of no key", impl.Put(p, root, "", "val"), impl.Saved{Code: wantCode})
		wantSaved(t, what+", Put of a great value", impl.Put(p, root, "key", mixedText(2001)), impl.Saved{Code: wantCode})
		wantSaved(t, what+", Del", impl.Del(p, root, "key"), impl.Saved{Code: wantCode})
		wantSaved(t, what+", Del of no key", impl.Del(p, root, ""), impl.Saved{Code: wantCode})
		wantDiff(t, what, p, root, "", nil, wantCode)
		wantDiff(t, what, p, "", root, nil, wantCode)
	}
}

// sinking are keys of which each is less high than the one before; the numbers give their order as texts.
func sinking(places ...int) []string {
	var keys []string
	for _, place := range places {
		for i := 0; ; i++ {
			key := string([]byte{byte('a' + place)}) + strconv.Itoa(i)
			if len(keys) == 0 && i < 200 && librarySum(key)[0] < 0xf8 {
				continue
			}
			if len(keys) == 0 || documentHigher(keys[len(keys)-1], key) && librarySum(key)[0] > librarySum(keys[len(keys)-1])[0]-40 {
				keys = append(keys, key)
				break
			}
		}
	}
	return keys
}

func TestLoadOfWhatIsNoPoolOrNoRoot(t *testing.T) {
	enc := leaf("a", "1")
	for _, w := range noWidths() {
		for _, root := range []string{"", "x", encHash(enc, 32)} {
			p := poolWith(w, enc)
			wantLoad(t, "no width", p, root, nil, impl.TreeBad)
			wantRange(t, "no width", p, root, "", "", nil, impl.TreeBad)
			wantRange(t, "no width", p, root, "b", "a", nil, impl.TreeBad)
			wantSaved(t, "no width, Put", impl.Put(p, root, "a", "1"), impl.Saved{Code: impl.TreeBad})
			wantSaved(t, "no width, Del", impl.Del(p, root, "a"), impl.Saved{Code: impl.TreeBad})
		}
	}
	for _, w := range treeWidths() {
		p := poolWith(w, enc)
		for size := 1; size < 70; size++ {
			if size == w {
				continue
			}
			root := (encHash(enc, 32) + zeros(70))[:size]
			what := "a root of " + strconv.Itoa(size) + " bytes"
			wantLoad(t, what, p, root, nil, impl.TreeBad)
			wantRange(t, what, p, root, "", "", nil, impl.TreeBad)
			wantRange(t, what, p, root, "b", "a", nil, impl.TreeBad)
			wantSaved(t, what+", Put", impl.Put(p, root, "a", "1"), impl.Saved{Code: impl.TreeBad})
			wantSaved(t, what+", Del", impl.Del(p, root, "a"), impl.Saved{Code: impl.TreeBad})
		}
		wantLoad(t, "the root", p, encHash(enc, w), pairsFrom("a", "1"), impl.TreeOk)
	}
}

func TestLoadOfPoolsAtTheirGreatestSize(t *testing.T) {
	const w = 8
	encs, root := documentTree(numbered(10), w)
	full := fullPool(w, 20000, encs...)
	wantLoad(t, "20000 encodings", full, root, numbered(10), impl.TreeOk)
	over := fullPool(w, 20001, encs...)
	for _, r := range []string{root, ""} {
		wantLoad(t, "20001 encodings", over, r, nil, impl.TreeBad)
		wantRange(t, "20001 encodings", over, r, "b", "a", nil, impl.TreeBad)
		wantSaved(t, "20001 encodings", impl.Put(over, r, "a", ""), impl.Saved{Code: impl.TreeBad})
		wantSaved(t, "20001 encodings", impl.Del(over, r, "a"), impl.Saved{Code: impl.TreeBad})
	}
	wantDiff(t, "20001 encodings", over, root, "", nil, impl.TreeBad)
	wantDiff(t, "20001 encodings, equal roots", over, root, root, nil, impl.TreeOk)
}

func TestLoadOfTheEmptyRoot(t *testing.T) {
	for _, w := range treeWidths() {
		for _, p := range []impl.Pool{poolWith(w), poolWith(w, "junk"), poolWith(w, leaf("a", ""), "")} {
			wantLoad(t, "the empty root", p, "", nil, impl.TreeOk)
			wantRange(t, "the empty root", p, "", "", "", nil, impl.TreeOk)
			wantRange(t, "the empty root", p, "", "a", "c", nil, impl.TreeOk)
		}
	}
}

func TestLoadOfANodeThatIsMissing(t *testing.T) {
	wantForged(t, "the top", &forged{key: "a", missing: true}, impl.TreeMissing)
	for at := range 15 {
		f := forgedFrom(numbered(15))
		f.nodes()[at].missing = true
		wantForged(t, "node "+strconv.Itoa(at), f, impl.TreeMissing)
	}
	wantLoad(t, "an empty pool", poolWith(4), "abcd", nil, impl.TreeMissing)
}

func TestLoadOfATextThatIsNoEncoding(t *testing.T) {
	wantForged(t, "the top", &forged{key: "a", junk: true}, impl.TreeCorrupt)
	wantForged(t, "the top with an empty key", &forged{key: ""}, impl.TreeCorrupt)
	wantForged(t, "the top with a great key", &forged{key: mixedText(257)}, impl.TreeCorrupt)
	wantForged(t, "the top with a great value", &forged{key: "a", val: mixedText(2001)}, impl.TreeCorrupt)
	for at := range 15 {
		f := forgedFrom(numbered(15))
		f.nodes()[at].junk = true
		wantForged(t, "node "+strconv.Itoa(at), f, impl.TreeCorrupt)
		f = forgedFrom(numbered(15))
		f.nodes()[at].key = ""
		wantForged(t, "an empty key at "+strconv.Itoa(at), f, impl.TreeCorrupt)
	}
	for _, w := range []int{1, 2} {
		good := leaf("a", "1")
		junk := junkLike(good, w)
		wantLoad(t, "the first of the hash", poolWith(w, junk, good), encHash(good, w), nil, impl.TreeCorrupt)
		wantLoad(t, "the second of the hash", poolWith(w, good, junk), encHash(good, w), pairsFrom("a", "1"), impl.TreeOk)
	}
}

// A node of a tree for another width has hashes of a wrong size.
func TestLoadAtAnotherWidth(t *testing.T) {
	encs, _ := documentTree(numbered(5), 9)
	p := poolWith(8, encs...)
	wantLoad(t, "another width", p, encHash(encs[4], 8), nil, impl.TreeCorrupt)
}

// Four nodes in a line, each but the last with a side to which it goes on: all sides, and for the last one every place among the keys.
func TestLoadOfKeysOnAWrongSide(t *testing.T) {
	counts := map[int]int{}
	for sides := range 8 {
		for place := range 5 {
			f, keys := zigzag(sides, place)
			p, root := f.pool(16)
			_, want := documentLoad(p, root)
			got, code := impl.Load(p, root)
			if code != want || want != impl.TreeOk && got != nil {
				t.Errorf("sides %d, keys %q: %v, code %d, want %d", sides, keys, got, code, want)
			}
			counts[want]++
		}
	}
	if counts[impl.TreeOk] != 8 || counts[impl.TreeCorrupt] != 32 {
		t.Errorf("%v", counts)
	}
}

// zigzag puts the first three where they belong, and the last one, less high than they are, at the place among their keys that is told.
func zigzag(sides int, place int) (*forged, []string) {
	low, high := 0, 24
	var places []int
	for i := range 3 {
		mid := (low + high) / 2
		places = append(places, mid)
		if sides>>i&1 == 0 {
			high = mid
		} else {
			low = mid
		}
	}
	sorted := slices.Sorted(slices.Values(places))
	switch place {
	case 0:
		places = append(places, sorted[0]-1)
	case 3:
		places = append(places, sorted[2]+1)
	case 1, 2:
		places = append(places, sorted[place]-1)
	}
	keys := sinking(places...)
	if place == 4 {
		keys = append(keys, keys[2])
	}
	f := &forged{key: keys[3]}
	for i := 2; i >= 0; i-- {
		if sides>>i&1 == 0 {
			f = &forged{key: keys[i], left: f}
		} else {
			f = &forged{key: keys[i], right: f}
		}
	}
	return f, keys
}

// By hand: on the right side of the one just above, on the wrong side of one farther up.
func TestLoadOfAKeyOnAWrongSideFartherUp(t *testing.T) {
	keys := sinking(12, 6, 13)
	wantForged(t, "left, right", &forged{key: keys[0], left: &forged{key: keys[1], right: &forged{key: keys[2]}}}, impl.TreeCorrupt)
	keys = sinking(12, 18, 11)
	wantForged(t, "right, left", &forged{key: keys[0], right: &forged{key: keys[1], left: &forged{key: keys[2]}}}, impl.TreeCorrupt)
	keys = sinking(12, 6, 3, 4, 7)
	wantForged(t, "one in the middle", &forged{key: keys[0], left: &forged{key: keys[1],
		left: &forged{key: keys[2], right: &forged{key: keys[3], right: &forged{key: keys[4]}}}}}, impl.TreeCorrupt)
	keys = sinking(12, 6, 18)
	wantForged(t, "left of the one just above", &forged{key: keys[0], left: &forged{key: keys[2]}}, impl.TreeCorrupt)
	wantForged(t, "right of the one just above", &forged{key: keys[0], right: &forged{key: keys[1]}}, impl.TreeCorrupt)
}

// The same key again, at any place below: it is neither greater nor less.
func TestLoadOfAKeyThatStandsAboveItself(t *testing.T) {
	for at := range 12 {
		for _, left := range []bool{true, false} {
			f := forgedFrom(numbered(12))
			n := f.nodes()[at]
			again := &forged{key: n.key}
			if left {
				again.left, n.left = n.left, again
			} else {
				again.right, n.right = n.right, again
			}
			wantForged(t, "node "+strconv.Itoa(at), f, impl.TreeCorrupt)
		}
	}
}

func TestLoadOfANodeThatIsNotLessHigh(t *testing.T) {
	keys := sinking(5, 12, 3, 7)
	wantForged(t, "on the right", &forged{key: keys[3], right: &forged{key: keys[1]}}, impl.TreeCorrupt)
	wantForged(t, "on the left", &forged{key: keys[3], left: &forged{key: keys[0]}}, impl.TreeCorrupt)
	wantForged(t, "less high than the top alone", &forged{key: keys[0], right: &forged{key: keys[3], right: &forged{key: keys[1]}}}, impl.TreeCorrupt)
	f := &forged{key: keys[0], right: &forged{key: keys[1], left: &forged{key: keys[3]}}}
	p, root := f.pool(8)
	wantLoad(t, "in order", p, root, pairsFrom(keys[0], "", keys[3], "", keys[1], ""), impl.TreeOk)
	// Nodes side by side are not held against each other.
	f = &forged{key: keys[0], left: &forged{key: keys[2]}, right: &forged{key: keys[1]}}
	p, root = f.pool(8)
	wantLoad(t, "side by side", p, root, pairsFrom(keys[2], "", keys[0], "", keys[1], ""), impl.TreeOk)
}

func TestLoadOfTheGreatestTrees(t *testing.T) {
	for _, count := range []int{499, 500, 501, 502, 700} {
		ps := numbered(count)
		p, root := forgedFrom(ps).pool(8)
		if count <= 500 {
			wantLoad(t, strconv.Itoa(count), p, root, ps, impl.TreeOk)
			continue
		}
		wantLoad(t, strconv.Itoa(count), p, root, nil, impl.TreeMany)
		wantSaved(t, "Put", impl.Put(p, root, "10000", "v"), impl.Saved{Code: impl.TreeMany})
		wantSaved(t, "Put of no key", impl.Put(p, root, "", "v"), impl.Saved{Code: impl.TreeMany})
		wantSaved(t, "Del", impl.Del(p, root, "10000"), impl.Saved{Code: impl.TreeMany})
		wantSaved(t, "Del of no key", impl.Del(p, root, ""), impl.Saved{Code: impl.TreeMany})
		wantDiff(t, "many", p, root, "", nil, impl.TreeMany)
	}
}

// Faults in a tree of 502 nodes count up to node 501, and at it, too: a node that is missing or corrupt is told as that.
func TestLoadOfManyNodesWithAFault(t *testing.T) {
	faults := map[string]int{"missing": impl.TreeMissing, "junk": impl.TreeCorrupt, "a wrong key": impl.TreeCorrupt}
	for at := 495; at < 502; at++ {
		for fault, want := range faults {
			f := forgedFrom(numbered(502))
			n := f.nodes()[at]
			n.missing, n.junk = fault == "missing", fault == "junk"
			if fault == "a wrong key" {
				n.key = "0"
			}
			if at > 500 {
				want = impl.TreeMany
			}
			p, root := f.pool(8)
			wantLoad(t, fault+" at node "+strconv.Itoa(at), p, root, nil, want)
		}
	}
}

// Two faults, at any two nodes: the one that comes first is the code.
func TestLoadWithTwoFaults(t *testing.T) {
	for i := range 12 {
		for j := range 12 {
			f := forgedFrom(numbered(12))
			nodes := f.nodes()
			nodes[i].missing = true
			nodes[j].junk = true
			want := impl.TreeMissing
			if j < i {
				want = impl.TreeCorrupt
			}
			wantForged(t, strconv.Itoa(i)+" missing, "+strconv.Itoa(j)+" corrupt", f, want)
			f = forgedFrom(numbered(12))
			nodes = f.nodes()
			nodes[i].missing = true
			nodes[j].key = "99999"
			p, root := f.pool(8)
			_, want = documentLoad(p, root)
			wantLoad(t, strconv.Itoa(i)+" missing, the key of "+strconv.Itoa(j)+" wrong", p, root, nil, want)
		}
	}
}

// selfLinked is a node that has, at width 1, its own hash as its left or right subtree.
func selfLinked(left bool) string {
	for i := 0; ; i++ {
		n := impl.Node{Key: "k" + strconv.Itoa(i%100), Val: strconv.Itoa(i), Right: string([]byte{byte(i)})}
		if left {
			n.Left, n.Right = n.Right, ""
		}
		if enc := documentNode(n); encHash(enc, 1) == n.Left+n.Right {
			return enc
		}
	}
}

func TestLoadOfATreeThatLeadsIntoItself(t *testing.T) {
	for _, left := range []bool{true, false} {
		enc := selfLinked(left)
		p := poolWith(1, enc)
		wantLoad(t, "into itself", p, encHash(enc, 1), nil, impl.TreeCorrupt)
		wantRange(t, "into itself", p, encHash(enc, 1), "", "", nil, impl.TreeCorrupt)
		wantSaved(t, "into itself", impl.Put(p, encHash(enc, 1), "a", ""), impl.Saved{Code: impl.TreeCorrupt})
		wantSaved(t, "into itself", impl.Del(p, encHash(enc, 1), "a"), impl.Saved{Code: impl.TreeCorrupt})
		n, _ := impl.DecodeNode(enc, 1)
		// Only the side that can have a key within the bounds is gone into.
		if left {
			wantRange(t, "beside", p, encHash(enc, 1), n.Key, "", pairsFrom(n.Key, n.Val), impl.TreeOk)
		} else {
			wantRange(t, "beside", p, encHash(enc, 1), "", n.Key, nil, impl.TreeOk)
		}
	}
}

// Every hash of pools in which any node may lead to any other.
func TestLoadOfAnyPool(t *testing.T) {
	counts := map[int]int{}
	for seed := range 25 {
		r := rand.New(rand.NewSource(int64(seed)))
		p := anyPool(r, 150)
		for b := range 256 {
			root := string([]byte{byte(b)})
			want, wantCode := documentLoad(p, root)
			wantLoad(t, "seed "+strconv.Itoa(seed), p, root, want, wantCode)
			lo, hi := mixedBound(r), mixedBound(r)
			want, wantCode = documentRange(p, root, lo, hi)
			wantRange(t, "seed "+strconv.Itoa(seed), p, root, lo, hi, want, wantCode)
			counts[wantCode]++
		}
	}
	if counts[impl.TreeOk] < 100 || counts[impl.TreeMissing] < 100 || counts[impl.TreeCorrupt] < 100 {
		t.Errorf("too few kinds of answers: %v", counts)
	}
}

func anyPool(r *rand.Rand, count int) impl.Pool {
	p := impl.Pool{W: 1}
	for i := range count {
		n := impl.Node{Key: mixedKey(r), Val: strconv.Itoa(i), Left: anyLink(r), Right: anyLink(r)}
		enc := documentNode(n)
		if r.Intn(20) == 0 {
			enc += "junk"
		}
		p.Encs = append(p.Encs, enc)
	}
	return p
}

func anyLink(r *rand.Rand) string {
	if r.Intn(3) > 0 {
		return ""
	}
	return string([]byte{byte(r.Intn(256))})
}

func mixedBound(r *rand.Rand) string {
	switch r.Intn(6) {
	case 0:
		return ""
	case 1:
		return mixedKey(r) + "\x00"
	}
	return mixedKey(r)
}

// Trees of maps with a fault or more at any of their nodes.
func TestLoadOfTreesWithFaults(t *testing.T) {
	counts := map[int]int{}
	for seed := range 1500 {
		r := rand.New(rand.NewSource(int64(seed)))
		f := forgedFrom(mixedMap(r, 20))
		for range r.Intn(4) {
			spoil(r, f.nodes())
		}
		p, root := f.pool(8)
		want, wantCode := documentLoad(p, root)
		wantLoad(t, "seed "+strconv.Itoa(seed), p, root, want, wantCode)
		counts[wantCode]++
		for range 10 {
			lo, hi := mixedBound(r), mixedBound(r)
			want, wantCode := documentRange(p, root, lo, hi)
			wantRange(t, "seed "+strconv.Itoa(seed), p, root, lo, hi, want, wantCode)
		}
	}
	if counts[impl.TreeOk] < 100 || counts[impl.TreeMissing] < 100 || counts[impl.TreeCorrupt] < 100 {
		t.Errorf("too few kinds of answers: %v", counts)
	}
}

func spoil(r *rand.Rand, nodes []*forged) {
	if len(nodes) == 0 {
		return
	}
	n := nodes[r.Intn(len(nodes))]
	switch r.Intn(6) {
	case 0:
		n.missing = true
	case 1:
		n.junk = true
	case 2:
		n.key = mixedKey(r)
	case 3:
		n.left, n.right = n.right, n.left
	case 4:
		n.left = nil
	case 5:
		n.key += "\x00"
	}
}

// Promise 9's first sentence: at every key, between, below and above, and with no bound.
func TestRangeGivesThePairsWithinTheBounds(t *testing.T) {
	for _, w := range []int{8, 32} {
		for _, count := range []int{0, 1, 2, 3, 12} {
			ps := numbered(count)
			s := impl.Save(poolWith(w, "junk"), ps)
			bounds := []string{"", "\x00", "1", "10", "a", "\xff"}
			for _, p := range ps {
				bounds = append(bounds, p.Key, p.Key+"\x00", p.Key[:4], p.Key+"5")
			}
			for _, lo := range bounds {
				for _, hi := range bounds {
					want := []impl.Pair{}
					for _, p := range ps {
						if lo <= p.Key && (hi == "" || p.Key < hi) {
							want = append(want, p)
						}
					}
					wantRange(t, strconv.Itoa(count)+" pairs", s.Pool, s.Root, lo, hi, want, impl.TreeOk)
				}
			}
		}
	}
}

func TestRangeOfTheGreatestMap(t *testing.T) {
	ps := numbered(500)
	s := impl.Save(poolWith(16), ps)
	wantRange(t, "all", s.Pool, s.Root, "", "", ps, impl.TreeOk)
	for _, from := range []int{0, 1, 77, 250, 498, 499} {
		for _, to := range []int{0, 1, 78, 251, 300, 499} {
			want := ps[min(from, to):to]
			wantRange(t, "a part", s.Pool, s.Root, ps[from].Key, ps[to].Key, want, impl.TreeOk)
		}
		wantRange(t, "no upper bound", s.Pool, s.Root, ps[from].Key, "", ps[from:], impl.TreeOk)
		wantRange(t, "no lower bound", s.Pool, s.Root, "", ps[from].Key, ps[:from], impl.TreeOk)
	}
}

// Nothing is gone into, not even the top, if hi is not greater than lo.
func TestRangeWithNothingBetweenTheBounds(t *testing.T) {
	for _, f := range []*forged{{key: "a", missing: true}, {key: "a", junk: true}, {key: "a"}} {
		p, root := f.pool(8)
		for _, b := range [][2]string{{"b", "a"}, {"a", "a"}, {"b", "b"}, {"a\x00", "a"}, {"\xff", "\x00"}, {"b", "\x00"}} {
			wantRange(t, "nothing between", p, root, b[0], b[1], nil, impl.TreeOk)
		}
		if f.missing {
			wantRange(t, "something between", p, root, "x", "y", nil, impl.TreeMissing)
			wantRange(t, "all above", p, root, "x", "", nil, impl.TreeMissing)
		}
	}
	wantRange(t, "a root of a wrong size", poolWith(8), "short", "b", "a", nil, impl.TreeBad)
	wantRange(t, "no pool", poolWith(0), "", "b", "a", nil, impl.TreeBad)
}

// A fault at each node in turn: it is told if the node is gone into, and only then.
func TestRangeWithAFaultInsideAndOutside(t *testing.T) {
	ps := numbered(12)
	told, untold := 0, 0
	for at := range 12 {
		for _, fault := range []int{impl.TreeMissing, impl.TreeCorrupt} {
			f := forgedFrom(ps)
			n := f.nodes()[at]
			n.missing, n.junk = fault == impl.TreeMissing, fault == impl.TreeCorrupt
			p, root := f.pool(8)
			for from := range 12 {
				for to := from; to < 12; to++ {
					for _, hi := range []string{ps[to].Key, ps[to].Key + "\x00", ""} {
						want, wantCode := documentRange(p, root, ps[from].Key, hi)
						wantRange(t, "node "+strconv.Itoa(at), p, root, ps[from].Key, hi, want, wantCode)
						if wantCode == impl.TreeOk {
							untold++
						} else {
							told++
						}
					}
				}
			}
		}
	}
	if told < 100 || untold < 100 {
		t.Errorf("%d told, %d not", told, untold)
	}
}

// By hand: the bounds of what is gone into, at a key and just beside it.
func TestRangeGoesOnlyWhereAKeyCanBe(t *testing.T) {
	const w = 8
	fork := forkKeys()
	f := &forged{key: fork[1], left: &forged{key: fork[0], missing: true}, right: &forged{key: fork[2], missing: true}}
	p, root := f.pool(w)
	one := pairsFrom(fork[1], "")
	below := fork[1][:1]
	wantRange(t, "the top alone", p, root, fork[1], fork[1]+"\x00", nil, impl.TreeMissing)
	wantRange(t, "lo just below the top", p, root, below, fork[1], nil, impl.TreeMissing)
	wantRange(t, "lo at the top", p, root, fork[1], "", nil, impl.TreeMissing)
	f.right.missing = false
	p, root = f.pool(w)
	wantRange(t, "lo at the top", p, root, fork[1], "", append(slices.Clone(one), impl.Pair{Key: fork[2]}), impl.TreeOk)
	wantRange(t, "lo above the top", p, root, fork[1]+"\x00", "", pairsFrom(fork[2], ""), impl.TreeOk)
	wantRange(t, "lo just below the top", p, root, below, "", nil, impl.TreeMissing)
	f.left.missing, f.right.missing = false, true
	p, root = f.pool(w)
	wantRange(t, "hi at the top", p, root, "", fork[1], pairsFrom(fork[0], ""), impl.TreeOk)
	wantRange(t, "hi below the top", p, root, "", below, pairsFrom(fork[0], ""), impl.TreeOk)
	wantRange(t, "hi just above the top", p, root, "", fork[1]+"\x00", nil, impl.TreeMissing)
	wantRange(t, "no upper bound", p, root, "", "", nil, impl.TreeMissing)
}

// A tree with more nodes than a map has: those count that are gone through, whether their keys are within the bounds or not.
func TestRangeOfTooManyNodes(t *testing.T) {
	counts := map[int]int{}
	for _, count := range []int{501, 502, 505} {
		ps := numbered(count)
		p, root := forgedFrom(ps).pool(8)
		for from := range 8 {
			for to := range 8 {
				for _, hi := range []string{ps[count-1-to].Key, ps[count-1-to].Key + "\x00", ""} {
					want, wantCode := documentRange(p, root, ps[from].Key, hi)
					wantRange(t, strconv.Itoa(count)+" nodes", p, root, ps[from].Key, hi, want, wantCode)
					counts[wantCode]++
					if wantCode == impl.TreeMany && len(ps)-from-to <= 500 {
						counts[-1]++
					}
				}
			}
		}
	}
	if counts[impl.TreeOk] < 20 || counts[impl.TreeMany] < 20 || counts[-1] == 0 {
		t.Errorf("too few kinds of answers: %v", counts)
	}
}
