package tests

import (
	"math/rand"
	"slices"
	"strconv"
	"testing"

	"loop.example/s03048/impl"
)

func TestProveOfWhatIsNoPoolOrNoRoot(t *testing.T) {
	enc := leaf("a", "1")
	wantBad := func(what string, p impl.Pool, root string) {
		t.Helper()
		for _, b := range [][2]string{{"", ""}, {"a", "b"}, {"b", "a"}, {"a", "a"}} {
			if got, code := wantProve(t, what, p, root, b[0], b[1]); got != "" || code != impl.TreeBad {
				t.Errorf("%s: %q, code %d", what, got, code)
			}
		}
	}
	for _, w := range noWidths() {
		for _, root := range []string{"", "x", encHash(enc, 32)} {
			wantBad("no width", poolWith(w, enc), root)
			wantBad("no width and nothing", poolWith(w), root)
		}
	}
	for _, w := range treeWidths() {
		for size := 1; size < 70; size++ {
			if size != w {
				wantBad("a root of "+strconv.Itoa(size)+" bytes", poolWith(w, enc), (encHash(enc, 32) + zeros(70))[:size])
			}
		}
	}
	encs, root := documentTree(numbered(10), 8)
	for _, r := range []string{root, ""} {
		wantBad("20001 encodings", fullPool(8, 20001, encs...), r)
	}
	if _, code := wantProve(t, "20000 encodings", fullPool(8, 20000, encs...), root, "", ""); code != impl.TreeOk {
		t.Errorf("20000 encodings: code %d", code)
	}
}

func TestProveOfTheEmptyRoot(t *testing.T) {
	for _, w := range treeWidths() {
		for _, p := range []impl.Pool{poolWith(w), poolWith(w, "junk"), poolWith(w, leaf("a", ""), "")} {
			for _, b := range [][2]string{{"", ""}, {"a", ""}, {"", "b"}, {"a", "c"}, {"a", "a"}, {"c", "a"}} {
				if got, code := wantProve(t, "the empty root", p, "", b[0], b[1]); got != "E" || code != impl.TreeOk {
					t.Errorf("width %d: %q, code %d", w, got, code)
				}
			}
		}
	}
}

// A fork by hand: which of the three is written whole, and which as a hash.
func TestProveOfAForkByHand(t *testing.T) {
	keys := forkKeys()
	ps := pairsFrom(keys[0], "1", keys[1], "", keys[2], "3")
	for _, w := range []int{8, 32} {
		s := impl.Save(poolWith(w), ps)
		left, right := encHash(leaf(keys[0], "1"), w), encHash(leaf(keys[2], "3"), w)
		top := fullPart(keys[1], "")
		low, high := fullPart(keys[0], "1")+"EE", fullPart(keys[2], "3")+"EE"
		below := keys[1][:1]
		for _, c := range []struct{ lo, hi, want string }{
			{"", "", top + low + high},
			{keys[1], "", top + "S" + left + high},
			{below, "", top + low + high},
			{keys[1] + "\x00", "", top + "S" + left + high},
			{"", keys[1], top + low + "S" + right},
			{"", below, top + low + "S" + right},
			{"", keys[1] + "\x00", top + low + high},
			{keys[1], keys[1] + "\x00", top + "S" + left + high},
			{below, keys[1], top + low + "S" + right},
			{"\x00", "\x01", top + low + "S" + right},
			{"\xfe", "\xff", top + "S" + left + high},
			{keys[1], keys[1], "S" + s.Root},
			{keys[2], keys[0], "S" + s.Root},
			{"\x01", "\x00", "S" + s.Root},
		} {
			if got, code := wantProve(t, "a fork", s.Pool, s.Root, c.lo, c.hi); got != c.want || code != impl.TreeOk {
				t.Errorf("from %q to %q: %q, code %d\nwant %q", c.lo, c.hi, got, code, c.want)
			}
		}
	}
}

// A text with both bytes of its size in use, in every place.
func TestProveOfTheGreatestTexts(t *testing.T) {
	for _, w := range treeWidths() {
		for _, keySize := range []int{1, 2, 255, 256} {
			for _, valSize := range []int{0, 1, 255, 256, 257, 1999, 2000} {
				key, val := mixedText(keySize), mixedText(valSize)
				s := impl.Save(poolWith(w), pairsFrom(key, val))
				want := "F" + string([]byte{byte(keySize / 256), byte(keySize)}) + key +
					string([]byte{byte(valSize / 256), byte(valSize)}) + val + "EE"
				for _, b := range [][2]string{{"", ""}, {key, ""}, {key, key + "\x00"}, {key + "\x00", ""}} {
					if got, code := wantProve(t, "sizes", s.Pool, s.Root, b[0], b[1]); got != want || code != impl.TreeOk {
						t.Errorf("%d and %d bytes: %.80q, code %d", keySize, valSize, got, code)
					}
				}
				wantShown(t, "the pair", w, s.Root, key, key+"\x00", want, pairsFrom(key, val))
				wantShown(t, "beside the pair", w, s.Root, key+"\x00", "", want, nil)
			}
		}
	}
}

// boundsFor are at every key, just behind it, before and between, below and above all.
func boundsFor(ps []impl.Pair) []string {
	bounds := []string{"", "\x00", "1", "a", "\xff"}
	for _, p := range ps {
		bounds = append(bounds, p.Key, p.Key+"\x00", p.Key[:len(p.Key)-1])
	}
	return bounds
}

// Promise 11.
func TestProofsShowThePairsWithinTheBounds(t *testing.T) {
	for _, w := range treeWidths() {
		saved := 0
		for _, count := range []int{0, 1, 2, 3, 4, 12} {
			ps := numbered(count)
			s := impl.Save(poolWith(w, "junk"), ps)
			if s.Code != impl.TreeOk {
				continue
			}
			saved++
			for _, lo := range boundsFor(ps) {
				for _, hi := range boundsFor(ps) {
					proof, code := wantProve(t, strconv.Itoa(count)+" pairs", s.Pool, s.Root, lo, hi)
					if code != impl.TreeOk {
						t.Fatalf("%d pairs: code %d", count, code)
					}
					wantShown(t, strconv.Itoa(count)+" pairs", w, s.Root, lo, hi, proof, pairsBetween(ps, lo, hi))
				}
			}
		}
		if saved < 4 {
			t.Errorf("width %d: only %d maps", w, saved)
		}
	}
}

func TestProofsOfEdgeMaps(t *testing.T) {
	for _, w := range treeWidths() {
		for what, ps := range edgeMaps() {
			s := impl.Save(poolWith(w), ps)
			if s.Code != impl.TreeOk {
				continue
			}
			some := ps
			if len(ps) > 8 {
				some = []impl.Pair{ps[0], ps[1], ps[len(ps)/2], ps[len(ps)-1]}
			}
			for _, lo := range boundsFor(some) {
				for _, hi := range append(boundsFor(some), lo) {
					proof, _ := impl.Prove(s.Pool, s.Root, lo, hi)
					wantShown(t, what, w, s.Root, lo, hi, proof, pairsBetween(ps, lo, hi))
				}
			}
			wantProve(t, what, s.Pool, s.Root, "", "")
		}
	}
}

func TestProofsOfMixedMaps(t *testing.T) {
	for _, w := range treeWidths() {
		r := rand.New(rand.NewSource(int64(400 + w)))
		saved := 0
		for range 120 {
			ps := mixedMap(r, 20)
			s := impl.Save(poolWith(w, "junk"), ps)
			if s.Code != impl.TreeOk {
				continue
			}
			saved++
			for range 8 {
				lo, hi := mixedBound(r), mixedBound(r)
				proof, _ := wantProve(t, "a mixed map", s.Pool, s.Root, lo, hi)
				wantShown(t, "a mixed map", w, s.Root, lo, hi, proof, pairsBetween(ps, lo, hi))
			}
		}
		if saved < 30 {
			t.Errorf("width %d: only %d maps", w, saved)
		}
	}
}

// A fault at each node in turn: it is told if the node is gone into, and only then; otherwise it stands behind an S.
func TestProveWithAFaultInsideAndOutside(t *testing.T) {
	ps := numbered(10)
	counts := map[int]int{}
	for at := range 10 {
		for _, fault := range []string{"missing", "junk", "a wrong key"} {
			f := forgedFrom(ps)
			n := f.nodes()[at]
			n.missing, n.junk = fault == "missing", fault == "junk"
			if fault == "a wrong key" {
				n.key = n.key[:4]
			}
			p, root := f.pool(8)
			for from := range 10 {
				for to := from; to < 10; to++ {
					for _, hi := range []string{ps[to].Key, ps[to].Key + "\x00", ""} {
						_, code := wantProve(t, fault+" at "+strconv.Itoa(at), p, root, ps[from].Key, hi)
						counts[code]++
					}
				}
			}
		}
	}
	if counts[impl.TreeOk] < 100 || counts[impl.TreeMissing] < 100 || counts[impl.TreeCorrupt] < 100 {
		t.Errorf("too few kinds of answers: %v", counts)
	}
}

// Nothing is gone into, not even the top, if hi is not greater than lo.
func TestProveOfNothingBetweenTheBounds(t *testing.T) {
	for _, f := range []*forged{{key: "a", missing: true}, {key: "a", junk: true}, {key: "a"}} {
		p, root := f.pool(8)
		for _, b := range [][2]string{{"b", "a"}, {"a", "a"}, {"a\x00", "a"}, {"\xff", "\x00"}} {
			if got, code := wantProve(t, "nothing between", p, root, b[0], b[1]); got != "S"+root || code != impl.TreeOk {
				t.Errorf("%q, code %d", got, code)
			}
		}
	}
}

func TestProveOfTooManyNodes(t *testing.T) {
	counts := map[int]int{}
	for _, count := range []int{499, 500, 501, 503} {
		ps := numbered(count)
		p, root := forgedFrom(ps).pool(8)
		for from := range 6 {
			for to := range 6 {
				for _, hi := range []string{ps[count-1-to].Key, ""} {
					_, code := wantProve(t, strconv.Itoa(count)+" nodes", p, root, ps[from].Key, hi)
					counts[code]++
				}
			}
		}
	}
	if counts[impl.TreeOk] < 20 || counts[impl.TreeMany] < 20 {
		t.Errorf("too few kinds of answers: %v", counts)
	}
}

// Pools of faulty trees and pools in which any node may lead to any other.
func TestProveOfAnyPool(t *testing.T) {
	counts := map[int]int{}
	for seed := range 600 {
		r := rand.New(rand.NewSource(int64(seed)))
		f := forgedFrom(mixedMap(r, 20))
		for range r.Intn(4) {
			spoil(r, f.nodes())
		}
		p, root := f.pool(8)
		for range 5 {
			_, code := wantProve(t, "a faulty tree", p, root, mixedBound(r), mixedBound(r))
			counts[code]++
		}
	}
	for seed := range 8 {
		r := rand.New(rand.NewSource(int64(seed)))
		p := anyPool(r, 150)
		for b := range 256 {
			_, code := wantProve(t, "any pool", p, string([]byte{byte(b)}), mixedBound(r), mixedBound(r))
			counts[code]++
		}
	}
	if counts[impl.TreeOk] < 500 || counts[impl.TreeMissing] < 200 || counts[impl.TreeCorrupt] < 200 {
		t.Errorf("too few kinds of answers: %v", counts)
	}
}

// poolsWith are pools that have the tree of a map: alone, in other orders, twice, among other trees and other texts.
func poolsWith(r *rand.Rand, w int, encs []string) []impl.Pool {
	backwards := slices.Clone(encs)
	slices.Reverse(backwards)
	mixed := slices.Clone(encs)
	r.Shuffle(len(mixed), func(i int, j int) { mixed[i], mixed[j] = mixed[j], mixed[i] })
	others, _ := documentTree(numbered(30), w)
	return []impl.Pool{
		poolWith(w, encs...),
		poolWith(w, backwards...),
		poolWith(w, mixed...),
		poolWith(w, slices.Concat(encs, []string{"junk", ""}, mixed)...),
		poolWith(w, slices.Concat([]string{"", "junk"}, others, backwards)...),
		poolWith(w, slices.Concat(backwards, others)...),
	}
}

// Promise 12's first sentence.
func TestAProofIsTheSameForEveryPool(t *testing.T) {
	for _, w := range []int{8, 32} {
		r := rand.New(rand.NewSource(int64(500 + w)))
		for range 60 {
			ps := mixedMap(r, 25)
			encs, root := documentTree(ps, w)
			lo, hi := mixedBound(r), mixedBound(r)
			want, _ := impl.Prove(impl.Save(poolWith(w), ps).Pool, root, lo, hi)
			for i, p := range poolsWith(r, w, encs) {
				if got, code := impl.Prove(p, root, lo, hi); got != want || code != impl.TreeOk {
					t.Errorf("pool %d: %.80q, code %d\nwant %.80q", i, got, code, want)
				}
			}
		}
	}
	// At the widths 1 and 2 another encoding may have the hash of one that is needed, but not before it.
	for _, w := range []int{1, 2} {
		ps := numbered(3)
		s := impl.Save(poolWith(w), ps)
		want, _ := impl.Prove(s.Pool, s.Root, ps[1].Key, "")
		more := slices.Clone(s.Pool.Encs)
		for _, enc := range s.Pool.Encs {
			more = append(more, junkLike(enc, w))
		}
		if got, code := impl.Prove(poolWith(w, more...), s.Root, ps[1].Key, ""); got != want || code != impl.TreeOk || s.Code != impl.TreeOk {
			t.Errorf("width %d: %q, code %d, want %q", w, got, code, want)
		}
	}
}

func (f *forged) height() int {
	if f == nil {
		return 0
	}
	return 1 + max(f.left.height(), f.right.height())
}

// wantSmall holds the number of F and S to promise 12.
func wantSmall(t *testing.T, what string, ps []impl.Pair, s impl.Saved, lo string, hi string) {
	t.Helper()
	height := forgedFrom(ps).height()
	proof, _ := impl.Prove(s.Pool, s.Root, lo, hi)
	p, rest, ok := parsedProof(proof, s.Pool.W)
	if !ok || rest != "" {
		t.Fatalf("%s: %.80q is no proof", what, proof)
	}
	shown := len(pairsBetween(ps, lo, hi))
	if p.count('F') > shown+2*height+2 || p.count('S') > 2*height+2 {
		t.Errorf("%s: %d F and %d S for %d pairs at the height %d", betweenBounds(what, s.Pool.W, lo, hi), p.count('F'), p.count('S'), shown, height)
	}
}

// Promise 12's second sentence, for trees that branch and for those that are a line.
func TestProofsAreSmall(t *testing.T) {
	maps := map[string][]impl.Pair{
		"500 pairs":           numbered(500),
		"a line to the right": line(60, true),
		"a line to the left":  line(60, false),
		"no pairs":            nil,
		"one pair":            numbered(1),
		"nine pairs":          numbered(9),
	}
	for what, ps := range maps {
		s := impl.Save(poolWith(8), ps)
		some := []impl.Pair{}
		for i := 0; i < len(ps); i += 1 + len(ps)/9 {
			some = append(some, ps[i])
		}
		for _, lo := range boundsFor(some) {
			for _, hi := range boundsFor(some) {
				wantSmall(t, what, ps, s, lo, hi)
			}
		}
	}
}

// deepLine is a map, or more than one, whose tree has one node at each height: each key is looked for among those of its own share of all hashes.
func deepLine(count int, toRight bool) []impl.Pair {
	var ps []impl.Pair
	for i := range count {
		place := 1000 + i
		if !toRight {
			place = 1999 - i
		}
		for j := 0; ; j++ {
			key := strconv.Itoa(place) + "." + strconv.Itoa(j)
			sum := librarySum(key)
			if (int(sum[0])*256+int(sum[1]))*count/65536 == count-1-i {
				ps = append(ps, impl.Pair{Key: key, Val: "v"})
				break
			}
		}
	}
	slices.SortFunc(ps, byKey)
	return ps
}

// The deepest trees that a map has.
func TestProofsOfTheDeepestTrees(t *testing.T) {
	for _, toRight := range []bool{true, false} {
		ps := deepLine(500, toRight)
		if height := forgedFrom(ps).height(); height != 500 {
			t.Fatalf("the height is %d", height)
		}
		s := impl.Save(poolWith(16), ps)
		for _, b := range [][2]string{{"", ""}, {ps[0].Key, ps[1].Key}, {ps[499].Key, ""}, {ps[250].Key, ps[260].Key}, {"", ps[250].Key}, {ps[9].Key, ps[9].Key}} {
			proof, _ := wantProve(t, "a line", s.Pool, s.Root, b[0], b[1])
			wantShown(t, "a line", 16, s.Root, b[0], b[1], proof, pairsBetween(ps, b[0], b[1]))
		}
	}
}
