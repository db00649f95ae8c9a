package tests

import (
	"math/rand"
	"slices"
	"strconv"
	"testing"

	"loop.example/s03048/impl"
)

// wantExtractOfMaps takes two maps with one root; it tells whether their proofs disagree within the bounds.
func wantExtractOfMaps(t *testing.T, what string, ps []impl.Pair, qs []impl.Pair, lo string, hi string, w int) bool {
	t.Helper()
	one, two := cutDown(forgedFrom(ps), lo, hi, w), cutDown(forgedFrom(qs), lo, hi, w)
	ok := wantExtract(t, what, w, one.whole(w), lo, hi, one.text(), two.text())
	if differ := !slices.Equal(pairsBetween(ps, lo, hi), pairsBetween(qs, lo, hi)); ok != differ {
		t.Errorf("%s: %t, though it is %t that the maps differ there", betweenBounds(what, w, lo, hi), ok, differ)
	}
	return ok
}

// wantExtracted is at a place by hand: the two nodes with that key.
func wantExtracted(t *testing.T, what string, ps []impl.Pair, qs []impl.Pair, key string, w int) {
	t.Helper()
	one, two := cutDown(forgedFrom(ps), "", "", w), cutDown(forgedFrom(qs), "", "", w)
	a, b, ok := impl.Extract(w, one.whole(w), "", "", one.text(), two.text())
	if wantA, wantB := "N"+one.keyed(key).enc(w), "N"+two.keyed(key).enc(w); a != wantA || b != wantB || !ok {
		t.Errorf("%s, width %d: %.80q %.80q %t\nwant %.80q %.80q", what, w, a, b, ok, wantA, wantB)
	}
	wantTwins(t, what, a, b, w)
}

func (p *looseProof) keyed(key string) *looseProof {
	for _, part := range p.parts() {
		if part.letter == 'F' && part.key == key {
			return part
		}
	}
	return nil
}

// Promise 13, with the difference at the top, in the left and in the right subtree, and in both.
func TestExtractAtTheTopAndInBothSubtrees(t *testing.T) {
	ps := numbered(7)
	top := topOf(ps)
	for _, w := range []int{1, 2} {
		atTop := twinMaps(ps, 0, 7, top, w)
		inLeft, inRight := topOf(ps[:top]), top+1+topOf(ps[top+1:])
		left := twinMaps(ps, 0, top, inLeft, w)
		right := twinMaps(ps, top+1, 7, inRight, w)
		sides := slices.Concat(left[:top+1], right[top+1:])
		wantExtracted(t, "at the top", ps, atTop, ps[top].Key, w)
		wantExtracted(t, "at the top, and below", atTop, sides, ps[top].Key, w)
		wantExtracted(t, "in the left subtree", ps, left, ps[inLeft].Key, w)
		wantExtracted(t, "in the right subtree", ps, right, ps[inRight].Key, w)
		wantExtracted(t, "in both subtrees", ps, sides, ps[inLeft].Key, w)
		wantExtracted(t, "in the right one of two", left, sides, ps[inRight].Key, w)
		wantExtracted(t, "in the left one of two", right, sides, ps[inLeft].Key, w)
		maps := [][]impl.Pair{ps, atTop, left, right, sides}
		for _, lo := range boundsFor(ps) {
			for _, hi := range boundsFor(ps) {
				for i, one := range maps {
					for _, two := range maps[i:] {
						wantExtractOfMaps(t, "twins", one, two, lo, hi, w)
					}
				}
			}
		}
	}
}

// One value after the other, farther and farther down; at width 1 the whole row of hashes above changes until the root is the same again.
func TestExtractFartherDown(t *testing.T) {
	ps := numbered(9)
	for at, p := range ps {
		qs := otherVal(ps, at, 1)
		for _, b := range [][2]string{{"", ""}, {p.Key, ""}, {"", p.Key + "\x00"}, {p.Key, p.Key + "\x00"}} {
			if !wantExtractOfMaps(t, "the value at "+strconv.Itoa(at), ps, qs, b[0], b[1], 1) {
				t.Errorf("nothing for the value at %d", at)
			}
		}
	}
	for _, w := range []int{1, 2} {
		for from, to := greaterSide(ps, 0, len(ps)); to-from > 0; from, to = greaterSide(ps, from, to) {
			at := from + topOf(ps[from:to])
			wantExtracted(t, "a subtree", ps, twinMaps(ps, from, to, at, w), ps[at].Key, w)
		}
	}
}

// besides counts which letters stand at the same places of two proofs.
func besides(p *looseProof, q *looseProof, counts map[string]int) {
	counts[string([]byte{min(p.letter, q.letter), max(p.letter, q.letter)})]++
	if p.letter == 'F' && q.letter == 'F' {
		besides(p.left, q.left, counts)
		besides(p.right, q.right, counts)
	}
}

// Maps of other keys and other sizes with one root: one proof has an S or an E where the other has an F.
func TestExtractOfMapsThatHaveLittleInCommon(t *testing.T) {
	for _, w := range []int{1, 2} {
		seen := map[string][]impl.Pair{}
		counts := map[string]int{}
		for i, found := 0, 0; found < 40; i++ {
			r := rand.New(rand.NewSource(int64(i)))
			ps := mixedMap(r, 6)
			_, root := documentTree(ps, w)
			if qs, ok := seen[root]; ok && !slices.Equal(ps, qs) {
				found++
				countLetters(t, r, ps, qs, w, counts)
			}
			seen[root] = ps
		}
		for _, kind := range []string{"EF", "FS", "ES", "FF"} {
			if counts[kind] < 20 {
				t.Errorf("width %d: too few places of each kind: %v", w, counts)
			}
		}
	}
}

func countLetters(t *testing.T, r *rand.Rand, ps []impl.Pair, qs []impl.Pair, w int, counts map[string]int) {
	t.Helper()
	bounds := append(boundsFor(ps), boundsFor(qs)...)
	for range 60 {
		lo, hi := bounds[r.Intn(len(bounds))], bounds[r.Intn(len(bounds))]
		if wantExtractOfMaps(t, "mixed maps", ps, qs, lo, hi, w) {
			besides(cutDown(forgedFrom(ps), lo, hi, w), cutDown(forgedFrom(qs), lo, hi, w), counts)
		}
	}
}

// By hand: one key in the left subtree and none there, with a root that is the same.
func TestExtractOfAnEmptySubtreeAndAFullOne(t *testing.T) {
	keys := forkKeys()
	for _, w := range []int{1, 2} {
		full := pairsFrom(keys[0], "1", keys[1], "2")
		_, root := documentTree(full, w)
		lone := pairsFrom(keys[1], "")
		for i := 0; impl.Root(lone, w) != root; i++ {
			lone[0].Val = strconv.Itoa(i)
		}
		wantExtracted(t, "E and F", lone, full, keys[1], w)
		if !wantExtractOfMaps(t, "E and F", lone, full, keys[0], keys[0]+"\x00", w) {
			t.Error("nothing within the bounds of the key that is there and is not")
		}
		// From the top's key on, its left subtree is an S or an E.
		if !wantExtractOfMaps(t, "E and S", lone, full, keys[1], "", w) {
			t.Error("nothing for two values of the top")
		}
		wantNothingExtracted(t, "the value of the top is not within", w, root, keys[1]+"\x00", "",
			cutDown(forgedFrom(lone), keys[1]+"\x00", "", w).text(), cutDown(forgedFrom(full), keys[1]+"\x00", "", w).text())
	}
}

// Proofs whose S hide nothing that there is: they are accepted, and so something is found.
func TestExtractOfProofsOfNoTree(t *testing.T) {
	for _, w := range []int{1, 2} {
		for _, b := range [][2]string{{"c", "h"}, {"e", ""}, {"", "k"}, {"f", "f\x00"}} {
			seen := map[string]*looseProof{}
			done := 0
			for seed := 0; done < 60; seed++ {
				r := rand.New(rand.NewSource(int64(seed)))
				p := cutDown(forgedFrom(mixedMap(r, 8)), b[0], b[1], w)
				for _, part := range p.parts() {
					if part.letter == 'S' {
						part.hash = encHash(strconv.Itoa(r.Intn(1000)), w)
					}
				}
				root := p.whole(w)
				if q, ok := seen[root]; ok && wantExtract(t, "made-up hashes", w, root, b[0], b[1], q.text(), p.text()) {
					done++
				}
				seen[root] = p
			}
		}
	}
}

func TestExtractOfProofsThatAgree(t *testing.T) {
	for _, w := range treeWidths() {
		for _, count := range []int{0, 1, 2, 5} {
			ps := numbered(count)
			for _, b := range [][2]string{{"", ""}, {"10007", ""}, {"", "10007"}, {"b", "a"}} {
				p := cutDown(forgedFrom(ps), b[0], b[1], w)
				wantShown(t, "one proof", w, p.whole(w), b[0], b[1], p.text(), pairsBetween(ps, b[0], b[1]))
				wantNothingExtracted(t, "one proof twice", w, p.whole(w), b[0], b[1], p.text(), p.text())
			}
		}
	}
}

// The texts differ, and with them the encodings, but not in what they show.
func TestExtractOfProofsThatDifferBesideTheBounds(t *testing.T) {
	ps := numbered(7)
	top := topOf(ps)
	for _, w := range []int{1, 2} {
		qs := twinMaps(ps, 0, 7, top, w)
		done := 0
		for _, lo := range boundsFor(ps) {
			for _, hi := range boundsFor(ps) {
				one, two := cutDown(forgedFrom(ps), lo, hi, w), cutDown(forgedFrom(qs), lo, hi, w)
				if isWithin(ps[top].Key, lo, hi) {
					continue
				}
				wantShown(t, "the one", w, one.whole(w), lo, hi, one.text(), pairsBetween(ps, lo, hi))
				wantShown(t, "the other", w, one.whole(w), lo, hi, two.text(), pairsBetween(ps, lo, hi))
				wantNothingExtracted(t, "different texts", w, one.whole(w), lo, hi, one.text(), two.text())
				if one.text() != two.text() {
					done++
				}
			}
		}
		if done < 20 {
			t.Errorf("only %d texts that differ", done)
		}
	}
}

func TestExtractOfAProofThatIsNotAccepted(t *testing.T) {
	ps := numbered(5)
	for _, w := range []int{1, 2} {
		qs := otherVal(ps, topOf(ps), w)
		one, two := cutDown(forgedFrom(ps), "", "", w), cutDown(forgedFrom(qs), "", "", w)
		root := one.whole(w)
		if !wantExtract(t, "both accepted", w, root, "", "", one.text(), two.text()) {
			t.Fatal("nothing is found")
		}
		for _, bad := range []string{"", "E", "X", "S" + root, one.text() + "E", two.text()[1:], leafPart("a", "1").text() + "x"} {
			wantNothingExtracted(t, "one that is none", w, root, "", "", one.text(), bad)
			wantNothingExtracted(t, "one that is none", w, root, "", "", two.text(), bad)
			wantNothingExtracted(t, "two that are none", w, root, "", "", bad, bad)
		}
		for cut := range len(two.text()) {
			wantNothingExtracted(t, "one that is cut", w, root, "", "", one.text(), two.text()[:cut])
		}
		wantNothingExtracted(t, "another root", w, withByte(root, 0, root[0]^1), "", "", one.text(), two.text())
		wantNothingExtracted(t, "the empty root", w, "", "", "", one.text(), two.text())
		wantNothingExtracted(t, "a longer root", w, root+"x", "", "", one.text(), two.text())
		wantNothingExtracted(t, "other bounds", w, root, "b", "a", one.text(), two.text())
		for _, none := range append(noWidths(), w+1, 31) {
			wantNothingExtracted(t, "another width", none, root, "", "", one.text(), two.text())
		}
	}
}

// Two proofs of different maps for one root, of which only one can be true at a great width.
func TestExtractAtGreatWidths(t *testing.T) {
	ps := numbered(6)
	for _, w := range []int{8, 32} {
		one := cutDown(forgedFrom(ps), "", "", w)
		for at := range ps {
			two := cutDown(forgedFrom(with(ps, ps[at].Key, "other")), "", "", w)
			wantNothingExtracted(t, "another map", w, one.whole(w), "", "", one.text(), two.text())
		}
	}
}

// Any two texts, each a proof, a spoilt one or none.
func TestExtractOfAnyTexts(t *testing.T) {
	found := 0
	for seed := range 4000 {
		r := rand.New(rand.NewSource(int64(seed)))
		ps := mixedMap(r, 5)
		lo, hi := mixedBound(r), mixedBound(r)
		p := cutDown(forgedFrom(ps), lo, hi, 1)
		root := p.whole(1)
		for range 12 {
			q := cutDown(forgedFrom(ps), lo, hi, 1)
			spoilPart(r, q.parts(), 1)
			if wantExtract(t, "seed "+strconv.Itoa(seed), 1, root, lo, hi, p.text(), q.text()) {
				found++
			}
		}
	}
	if found < 5 {
		t.Errorf("only %d pairs of texts were found", found)
	}
}
