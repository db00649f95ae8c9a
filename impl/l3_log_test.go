package impl

import (
	"slices"
	"strings"
	"testing"
)

func TestRecordsAreGivenInOrder(t *testing.T) {
	image := NodeRecord("a") + NodeRecord(mixedText(100)) + CommitRecord(5, "root") + NodeRecord("b")
	want := []Record{
		{Kind: RecNode, Enc: "a", Next: 1},
		{Kind: RecNode, Enc: mixedText(100), Next: 3},
		{Kind: RecCommit, Version: 5, Root: "root", Next: 4},
		{Kind: RecNode, Enc: "b", Next: 5},
	}
	for _, tail := range []string{"", "x", strings.Repeat("\x00", Sector) + CommitRecord(1, "")} {
		all := records(image + tail)
		for range 2 {
			if got := slices.Collect(all); !slices.Equal(got, want) {
				t.Errorf("%d bytes behind: %v", len(tail), got)
			}
		}
	}
	if got := slices.Collect(records("")); got != nil {
		t.Errorf("nothing has %v", got)
	}
}

func TestRecordsEndWhereTheCallerEnds(t *testing.T) {
	image := strings.Repeat(CommitRecord(1, ""), 5)
	for stop := 1; stop <= 5; stop++ {
		seen := 0
		for rec := range records(image) {
			seen++
			if rec.Next == stop {
				break
			}
		}
		if seen != stop {
			t.Errorf("%d records, want %d", seen, stop)
		}
	}
}

func TestPlacesAreCutToTheWidth(t *testing.T) {
	for w := 1; w <= hashSize; w++ {
		known := newPlaces(w)
		known.add("enc", 7)
		known.add("enc", 8)
		hash := encodingHash("enc")
		for size := range hashSize + 1 {
			place, found := known.find(string(hash[:size]))
			if found != (size == w) || found && place != 7 || !found && place != 0 {
				t.Errorf("width %d, %d bytes: %d %t", w, size, place, found)
			}
		}
		for full := range known.first {
			if full != widened(string(hash[:w])) {
				t.Errorf("width %d: %x", w, full)
			}
		}
	}
}

func widened(hash string) fullHash {
	var full fullHash
	copy(full[:], hash)
	return full
}

func TestAppendAtMakesHolesOfZeros(t *testing.T) {
	known := []struct {
		left string
		at   int
		s    string
		want string
	}{
		{"", 0, "", ""},
		{"ab", 9, "", "ab"},
		{"ab", 2, "c", "abc"},
		{"ab", 4, "c", "ab\x00\x00c"},
		{"", 2, "cd", "\x00\x00cd"},
	}
	for _, k := range known {
		if got := string(appendAt([]byte(k.left), k.at, k.s)); got != k.want {
			t.Errorf("%q at %d of %q: %q", k.s, k.at, k.left, got)
		}
	}
}

func TestSectorEndIsBehindThePlace(t *testing.T) {
	for _, k := range [][2]int{{0, 64}, {1, 64}, {63, 64}, {64, 128}, {127, 128}, {128, 192}} {
		if got := sectorEnd(k[0]); got != k[1] {
			t.Errorf("%d: %d, want %d", k[0], got, k[1])
		}
	}
}
