package impl

import (
	"crypto/sha256"
	"testing"
)

func mixedText(size int) string {
	out := make([]byte, size)
	for i := range out {
		out[i] = byte(i*167 + size)
	}
	return string(out)
}

func TestFeedInTwoPieces(t *testing.T) {
	for _, size := range []int{1, 55, 56, 63, 64, 65, 119, 120, 128, 200} {
		s := mixedText(size)
		want := fullHash(sha256.Sum256([]byte(s)))
		for cut := 0; cut <= size; cut++ {
			h := newHasher()
			h.feed(s[:cut])
			h.feed("")
			h.feed(s[cut:])
			if h.finish() != want {
				t.Errorf("%d bytes cut at %d", size, cut)
			}
		}
	}
}

func TestFeedByteByByte(t *testing.T) {
	s := mixedText(300)
	h := newHasher()
	for i := range len(s) {
		h.feed(s[i : i+1])
	}
	if h.finish() != fullHash(sha256.Sum256([]byte(s))) {
		t.Error("fed byte by byte")
	}
}

// No two keys with equal hashes are known, so equal hashes are made up here.
func TestAboveAtEqualHashes(t *testing.T) {
	keys := []string{"", "\x00", "a", "a\x00", "ab", "b", "\xff"}
	for i, a := range keys {
		for j, b := range keys {
			one, two := rank{hash: fullHash{7}, key: a}, rank{hash: fullHash{7}, key: b}
			if one.above(two) != (i < j) {
				t.Errorf("%q above %q", a, b)
			}
		}
	}
}

func TestAboveLooksAtEveryByteOfTheHash(t *testing.T) {
	for place := range hashSize {
		low, high := rank{key: "a"}, rank{key: "b"}
		low.hash[place], high.hash[place] = 127, 128
		for later := place + 1; later < hashSize; later++ {
			low.hash[later] = 255
		}
		if !high.above(low) || low.above(high) {
			t.Errorf("hashes that differ first at byte %d", place)
		}
	}
}

func TestIsWidth(t *testing.T) {
	for w := -40; w <= 80; w++ {
		if isWidth(w) != (w >= 1 && w <= 32) {
			t.Errorf("%d: %t", w, isWidth(w))
		}
	}
}
