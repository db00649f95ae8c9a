package tests

import (
	"slices"
	"strconv"
	"testing"

	"loop.example/s03048/impl"
)

// twinLeaves are two different encodings of leaves with one hash.
func twinLeaves(w int) (string, string) {
	seen := map[string]string{}
	for i := 0; ; i++ {
		enc := leaf("key"+strconv.Itoa(i), "")
		hash := encHash(enc, w)
		if seen[hash] != "" {
			return seen[hash], enc
		}
		seen[hash] = enc
	}
}

// junkLike is a text that is no node and has the hash of an encoding.
func junkLike(enc string, w int) string {
	for i := 0; ; i++ {
		junk := "junk" + strconv.Itoa(i)
		if encHash(junk, w) == encHash(enc, w) {
			return junk
		}
	}
}

func wantFound(t *testing.T, what string, p impl.Pool, hash string, want impl.Node) {
	t.Helper()
	if n, code := impl.PoolFind(p, hash); n != want || code != impl.PoolOk {
		t.Errorf("%s, width %d: %.60q, code %d", what, p.W, n, code)
	}
}

func wantNotFound(t *testing.T, what string, p impl.Pool, hash string, want int) {
	t.Helper()
	if n, code := impl.PoolFind(p, hash); n != (impl.Node{}) || code != want {
		t.Errorf("%s, width %d: %.60q, code %d, want %d", what, p.W, n, code, want)
	}
}

func TestPoolFindsEveryNode(t *testing.T) {
	for _, w := range []int{1, 2, 3, 8, 31, 32} {
		nodes := validNodes(w)
		p := impl.Pool{W: w}
		for _, n := range nodes {
			p.Encs = append(p.Encs, documentNode(n))
		}
		first := map[string]impl.Node{}
		for _, n := range nodes {
			hash := librarySum(nodeText(n))[:w]
			if _, ok := first[hash]; !ok {
				first[hash] = n
			}
		}
		for hash, n := range first {
			wantFound(t, strconv.Quote(hash), p, hash, n)
		}
	}
}

// Every hash of one byte, in a pool of which some encodings are no nodes.
func TestPoolAtTheWidthOne(t *testing.T) {
	p := impl.Pool{W: 1}
	for i := range 150 {
		p.Encs = append(p.Encs, leaf("key"+strconv.Itoa(i), "v"))
		if i%3 == 0 {
			p.Encs = append(p.Encs, "junk"+strconv.Itoa(i))
		}
	}
	counts := map[int]int{}
	for b := range 256 {
		hash := string([]byte{byte(b)})
		at := slices.IndexFunc(p.Encs, func(enc string) bool { return encHash(enc, 1) == hash })
		want, wantCode := impl.Node{}, impl.PoolMissing
		if at >= 0 {
			var ok bool
			want, ok = impl.DecodeNode(p.Encs[at], 1)
			wantCode = impl.PoolOk
			if !ok {
				wantCode = impl.PoolCorrupt
			}
		}
		if n, code := impl.PoolFind(p, hash); n != want || code != wantCode {
			t.Errorf("hash %d: %v, code %d, want %v, code %d", b, n, code, want, wantCode)
		}
		counts[wantCode]++
	}
	if counts[impl.PoolOk] == 0 || counts[impl.PoolMissing] == 0 || counts[impl.PoolCorrupt] == 0 {
		t.Errorf("too few kinds of answers: %v", counts)
	}
}

func TestPoolsThatAreNotValid(t *testing.T) {
	enc := leaf("a", "")
	for _, w := range noWidths() {
		for _, hash := range []string{"", "x", encHash(enc, 32), encHash(enc, 32) + "x"} {
			wantNotFound(t, "no width", impl.Pool{W: w, Encs: []string{enc}}, hash, impl.PoolBad)
			wantNotFound(t, "no width and nothing", impl.Pool{W: w}, hash, impl.PoolBad)
		}
	}
}

func TestPoolsOfTheGreatestSize(t *testing.T) {
	const w = 8
	var encs []string
	for i := range 20001 {
		encs = append(encs, leaf("key"+strconv.Itoa(i), ""))
	}
	for _, size := range []int{1, 19999, 20000} {
		p := impl.Pool{W: w, Encs: encs[:size]}
		for _, at := range []int{0, size / 2, size - 1} {
			wantFound(t, strconv.Itoa(size)+" encodings, "+strconv.Itoa(at), p, encHash(encs[at], w), impl.Node{Key: "key" + strconv.Itoa(at)})
		}
		wantNotFound(t, "one behind", p, encHash(encs[size], w), impl.PoolMissing)
	}
	for _, size := range []int{20001, 20002, 40000} {
		p := impl.Pool{W: w, Encs: append(slices.Clone(encs), make([]string, 20000)...)[:size]}
		wantNotFound(t, strconv.Itoa(size)+" encodings", p, encHash(encs[0], w), impl.PoolBad)
		wantNotFound(t, strconv.Itoa(size)+" encodings", p, "", impl.PoolBad)
	}
}

func TestHashesOfAnotherSize(t *testing.T) {
	for _, w := range []int{1, 2, 3, 31, 32} {
		enc := leafWithZero(w - 1)
		full := librarySum("N" + enc)
		p := impl.Pool{W: w, Encs: []string{enc}}
		for size := range 80 {
			if size == w {
				continue
			}
			wantNotFound(t, "a part of the hash and more", p, (full + mixedText(64))[:size], impl.PoolBad)
			wantNotFound(t, "the hash and zeros", p, (full[:w] + zeros(80))[:size], impl.PoolBad)
		}
		n, _ := impl.DecodeNode(enc, w)
		wantFound(t, "the hash", p, full[:w], n)
	}
}

func TestHashesThatNoneHas(t *testing.T) {
	a, b := leaf("a", ""), leaf("b", "")
	for _, w := range []int{2, 3, 8, 32} {
		hash := encHash(a, w)
		p := impl.Pool{W: w, Encs: []string{a, "junk"}}
		for what, missing := range map[string]string{
			"of another node":    encHash(b, w),
			"first bit changed":  withByte(hash, 0, hash[0]^1),
			"last bit changed":   withByte(hash, w-1, hash[w-1]^128),
			"without the letter": librarySum(a)[:w],
			"of the empty text":  encHash("", w),
			"zeros":              zeros(w),
		} {
			wantNotFound(t, what, p, missing, impl.PoolMissing)
		}
		wantNotFound(t, "an empty pool", impl.Pool{W: w}, hash, impl.PoolMissing)
		wantNotFound(t, "a pool of no encodings", impl.Pool{W: w, Encs: []string{}}, hash, impl.PoolMissing)
	}
}

func TestEncodingsThatAreNoNodes(t *testing.T) {
	const w = 5
	good := documentNode(impl.Node{Key: "a", Val: "v", Left: "LLLLL"})
	for _, enc := range []string{
		"", "x", "junk", good + "\x00", good[1:], good[:len(good)-1], mixedText(5000),
		leaf("", "v"), leaf(mixedText(257), ""), leaf("a", mixedText(2001)),
		documentNode(impl.Node{Key: "a", Left: "LLLL"}), documentNode(impl.Node{Key: "a", Right: "RRRRRR"}),
		documentNodeRecord(good), "N" + good,
	} {
		p := impl.Pool{W: w, Encs: []string{good, enc, leaf("b", "")}}
		wantNotFound(t, strconv.Quote(enc[:min(20, len(enc))]), p, encHash(enc, w), impl.PoolCorrupt)
		wantFound(t, "the node before it", p, encHash(good, w), impl.Node{Key: "a", Val: "v", Left: "LLLLL"})
		wantFound(t, "the node behind it", p, encHash(leaf("b", ""), w), impl.Node{Key: "b"})
	}
}

// A node with links is none at another width.
func TestNodesOfAnotherWidth(t *testing.T) {
	enc := documentNode(impl.Node{Key: "a", Left: "LLL"})
	wantFound(t, "its width", impl.Pool{W: 3, Encs: []string{enc}}, encHash(enc, 3), impl.Node{Key: "a", Left: "LLL"})
	for _, w := range []int{1, 2, 4, 32} {
		wantNotFound(t, "another width", impl.Pool{W: w, Encs: []string{enc}}, encHash(enc, w), impl.PoolCorrupt)
	}
}

func TestTheFirstOfTwoWithOneHashCounts(t *testing.T) {
	for _, w := range []int{1, 2} {
		one, two := twinLeaves(w)
		first, _ := impl.DecodeNode(one, w)
		second, _ := impl.DecodeNode(two, w)
		hash := encHash(one, w)
		wantFound(t, "one first", impl.Pool{W: w, Encs: []string{one, two}}, hash, first)
		wantFound(t, "two first", impl.Pool{W: w, Encs: []string{two, one}}, hash, second)
		wantFound(t, "between others", impl.Pool{W: w, Encs: []string{one, two, one, two, two}}, hash, first)
		wantFound(t, "at a greater width", impl.Pool{W: 32, Encs: []string{one, two}}, encHash(two, 32), second)
		if first == second {
			t.Errorf("width %d: the twins are one", w)
		}
	}
}

func TestTheFirstCountsEvenWhereItIsNoNode(t *testing.T) {
	for _, w := range []int{1, 2} {
		good := leaf("good", "v")
		junk := junkLike(good, w)
		hash := encHash(good, w)
		wantNotFound(t, "no node first", impl.Pool{W: w, Encs: []string{junk, good}}, hash, impl.PoolCorrupt)
		wantNotFound(t, "no node first of many", impl.Pool{W: w, Encs: []string{junk, good, good, junk}}, hash, impl.PoolCorrupt)
		wantFound(t, "a node first", impl.Pool{W: w, Encs: []string{good, junk}}, hash, impl.Node{Key: "good", Val: "v"})
		wantFound(t, "a node first of many", impl.Pool{W: w, Encs: []string{good, junk, junk, good}}, hash, impl.Node{Key: "good", Val: "v"})
	}
}

func TestPoolFindAnswersNewMemory(t *testing.T) {
	n := impl.Node{Key: mixedText(20), Val: mixedText(30), Left: mixedText(8), Right: mixedText(8)}
	p := impl.Pool{W: 8, Encs: []string{"junk", documentNode(n), "more"}}
	before := slices.Clone(p.Encs)
	got, code := impl.PoolFind(p, encHash(p.Encs[1], 8))
	if got != n || code != impl.PoolOk {
		t.Fatalf("%v, code %d", got, code)
	}
	for _, s := range []string{got.Key, got.Val, got.Left, got.Right} {
		if sharesMemory(s, p.Encs[1]) {
			t.Errorf("%q is a piece of the pool", s)
		}
	}
	if !slices.Equal(p.Encs, before) {
		t.Error("the pool has changed")
	}
}
