package tests

import (
	"slices"
	"strconv"
	"strings"
	"testing"

	"loop.example/s03048/impl"
)

func nodeText(n impl.Node) string {
	return "N" + documentNode(n)
}

// encHash is the hash of an encoding, by the library.
func encHash(enc string, w int) string {
	return librarySum("N" + enc)[:w]
}

func leaf(key string, val string) string {
	return documentNode(impl.Node{Key: key, Val: val})
}

func shownScan(s impl.Scanned) string {
	return strings.Join([]string{
		strconv.Itoa(len(s.Nodes)), "nodes,", strconv.Itoa(len(s.Roots)), "roots, end", strconv.Itoa(s.End)}, " ")
}

func sameScan(a impl.Scanned, b impl.Scanned) bool {
	return slices.Equal(a.Nodes, b.Nodes) && slices.Equal(a.Roots, b.Roots) && a.End == b.End
}

func wantScan(t *testing.T, what string, image string, w int, want impl.Scanned) {
	t.Helper()
	if got := impl.Scan(image, w); !sameScan(got, want) {
		t.Errorf("%s, width %d: %s, want %s", what, w, shownScan(got), shownScan(want))
	}
}

// documentScan goes by the words of the document, with no function of the program.
func documentScan(image string, w int) impl.Scanned {
	var said impl.Scanned
	var aside []string
	at := 0
	for {
		rec := documentRead(image[at:min(at+64*64, len(image))])
		at += rec.Next * 64
		switch {
		case rec.Kind == impl.RecNode:
			aside = append(aside, rec.Enc)
		case rec.Kind == impl.RecCommit && rec.Version == len(said.Roots)+1 && documentRootIsThere(rec.Root, slices.Concat(said.Nodes, aside), w):
			said.Nodes = append(said.Nodes, aside...)
			aside = nil
			said.Roots = append(said.Roots, rec.Root)
			said.End = at
		default:
			return said
		}
	}
}

func documentRootIsThere(root string, encs []string, w int) bool {
	return root == "" || slices.ContainsFunc(encs, func(enc string) bool { return encHash(enc, w) == root })
}

// commitOf is a version with the encodings that are new in it.
type commitOf struct {
	encs []string
	root string
}

func textOfCommit(version int, c commitOf) string {
	return textOfNodes(c.encs) + documentCommitRecord(version, c.root)
}

func textOfNodes(encs []string) string {
	out := ""
	for _, enc := range encs {
		out += documentNodeRecord(enc)
	}
	return out
}

// logOf is the image of the commits, with the place at which each ends.
func logOf(commits []commitOf) (string, []int) {
	image := ""
	var ends []int
	for i, c := range commits {
		image += textOfCommit(i+1, c)
		ends = append(ends, len(image))
	}
	return image, ends
}

// wholeBefore is what is said of the commits that end at a place or before it.
func wholeBefore(commits []commitOf, ends []int, place int) impl.Scanned {
	var said impl.Scanned
	for i, c := range commits {
		if ends[i] > place {
			break
		}
		said.Nodes = append(said.Nodes, c.encs...)
		said.Roots = append(said.Roots, c.root)
		said.End = ends[i]
	}
	return said
}

// forgedVal has the body of a commit in the room of each sector, wherever the value begins.
func forgedVal(version int, size int) string {
	body := documentCommitRecord(version, "")[:63]
	return strings.Repeat(body, size/63+1)[:size]
}

// manyCommits has commits with and without nodes, roots of before, empty roots, trees, and nodes of one and of many sectors.
func manyCommits(w int) []commitOf {
	one := leaf("a", "1")
	left, right := leaf("b", mixedText(49)), leaf("d", mixedText(50))
	top := documentNode(impl.Node{Key: "c", Val: "3", Left: encHash(left, w), Right: encHash(right, w)})
	forged := leaf("forged", forgedVal(9, 500))
	long := leaf(mixedText(256), mixedText(300))
	return []commitOf{
		{[]string{one}, encHash(one, w)},
		{nil, ""},
		{[]string{left, right, top}, encHash(top, w)},
		{nil, encHash(one, w)},
		{[]string{leaf("e", ""), leaf("f", "")}, ""},
		{nil, encHash(left, w)},
		{[]string{forged}, encHash(forged, w)},
		{[]string{one, long}, encHash(long, w)},
		{nil, encHash(top, w)},
	}
}

// Promise 5, whole and cut at every byte.
func TestScanOfCommitsCutAnywhere(t *testing.T) {
	for _, w := range []int{1, 2, 8, 32} {
		commits := manyCommits(w)
		image, ends := logOf(commits)
		for size := 0; size <= len(image); size++ {
			want := wholeBefore(commits, ends, size)
			if got := impl.Scan(image[:size], w); !sameScan(got, want) {
				t.Fatalf("width %d, cut to %d bytes: %s, want %s", w, size, shownScan(got), shownScan(want))
			}
		}
		if got := impl.Scan(image, w); len(got.Roots) != len(commits) || got.End != len(image) {
			t.Errorf("width %d: %s", w, shownScan(got))
		}
	}
}

// Promise 5, for the last byte of every sector.
func TestScanOfCommitsWithASectorThatHasLostItsEnd(t *testing.T) {
	for _, w := range []int{1, 2, 8, 32} {
		commits := manyCommits(w)
		image, ends := logOf(commits)
		for end := 63; end < len(image); end += 64 {
			want := wholeBefore(commits, ends, end-63)
			if got := impl.Scan(withByte(image, end, 0), w); !sameScan(got, want) {
				t.Fatalf("width %d, sector %d: %s, want %s", w, end/64, shownScan(got), shownScan(want))
			}
		}
	}
}

// A crash leaves the commits that were safe, and of the others a beginning.
func TestScanOfWhatACrashLeaves(t *testing.T) {
	const w = 8
	commits := manyCommits(w)
	image, ends := logOf(commits)
	for safe := range ends {
		d := impl.Disk{Stable: image[:ends[safe]], Now: image, Cap: len(image)}
		for _, whole := range []int{0, 1, 2, 3, 5, 8} {
			for _, torn := range []int{0, 1, 30, 63} {
				picks := slices.Concat(slices.Repeat([]int{64}, whole), []int{torn}, slices.Repeat([]int{64}, 100))
				crashed := impl.DiskCrash(d, picks)
				lost := min(ends[safe]+64*whole, len(image))
				want := wholeBefore(commits, ends, lost)
				wantScan(t, strconv.Itoa(whole)+" sectors behind "+strconv.Itoa(safe), crashed.Now, w, want)
			}
		}
	}
}

func TestScanAtEveryWidth(t *testing.T) {
	for w := 1; w <= 32; w++ {
		commits := manyCommits(w)
		image, ends := logOf(commits)
		wantScan(t, "all commits", image, w, wholeBefore(commits, ends, len(image)))
	}
}

func TestScanAtNoWidth(t *testing.T) {
	image := documentNodeRecord(leaf("a", "")) + documentCommitRecord(1, "")
	for _, w := range noWidths() {
		wantScan(t, "a commit", image, w, impl.Scanned{})
		wantScan(t, "nothing", "", w, impl.Scanned{})
	}
}

func TestScanOfTheGreatestImage(t *testing.T) {
	var commits strings.Builder
	var roots []string
	for version := 1; version <= impl.MaxDisk/64; version++ {
		commits.WriteString(documentCommitRecord(version, ""))
		roots = append(roots, "")
	}
	image := commits.String()
	wantScan(t, "the greatest image", image, 4, impl.Scanned{Roots: roots, End: impl.MaxDisk})
	wantScan(t, "a byte more", image+"\x00", 4, impl.Scanned{})
	wantScan(t, "a sector more", image+documentCommitRecord(impl.MaxDisk/64+1, ""), 4, impl.Scanned{})
	short := image[:impl.MaxDisk-64]
	want := impl.Scanned{Roots: roots[1:], End: impl.MaxDisk - 64}
	wantScan(t, "63 bytes of garbage", short+mixedText(63), 4, want)
	wantScan(t, "64 bytes of garbage", short+mixedText(64), 4, want)
	wantScan(t, "65 bytes of garbage", short+mixedText(65), 4, impl.Scanned{})
}

func TestScanOfTheGreatestNumberOfNodes(t *testing.T) {
	var nodes strings.Builder
	var encs []string
	for i := range impl.MaxDisk/64 - 1 {
		enc := leaf("key"+strconv.Itoa(i), "")
		nodes.WriteString(documentNodeRecord(enc))
		encs = append(encs, enc)
	}
	root := encHash(encs[0], 16)
	image := nodes.String() + documentCommitRecord(1, root)
	wantScan(t, "nodes and a commit", image, 16, impl.Scanned{Nodes: encs, Roots: []string{root}, End: impl.MaxDisk})
	wantScan(t, "nodes alone", nodes.String(), 16, impl.Scanned{})
}

func TestScanOfNodesWithNoCommit(t *testing.T) {
	a, b := leaf("a", ""), leaf("b", mixedText(200))
	first := commitOf{[]string{a}, encHash(a, 5)}
	head := textOfCommit(1, first)
	said := impl.Scanned{Nodes: first.encs, Roots: []string{first.root}, End: len(head)}
	wantScan(t, "nothing", "", 5, impl.Scanned{})
	wantScan(t, "a node", documentNodeRecord(a), 5, impl.Scanned{})
	wantScan(t, "two nodes", documentNodeRecord(a)+documentNodeRecord(b), 5, impl.Scanned{})
	wantScan(t, "a node behind", head+documentNodeRecord(b), 5, said)
	wantScan(t, "three nodes behind", head+documentNodeRecord(b)+documentNodeRecord(a)+documentNodeRecord(b), 5, said)
	wantScan(t, "a node and a commit of its own", head+textOfCommit(2, commitOf{[]string{b}, encHash(b, 5)}), 5,
		impl.Scanned{Nodes: []string{a, b}, Roots: []string{first.root, encHash(b, 5)}, End: 128 + 64*5})
}

// A commit with a wrong version ends the reading, and what would be right behind it is not read.
func TestScanOfVersionsThatAreNotTheNext(t *testing.T) {
	a, b := leaf("a", ""), leaf("b", "")
	first := textOfCommit(1, commitOf{[]string{a}, encHash(a, 3)})
	second := textOfCommit(2, commitOf{[]string{b}, encHash(b, 3)})
	said := impl.Scanned{Nodes: []string{a}, Roots: []string{encHash(a, 3)}, End: len(first)}
	for _, version := range []int{1, 3, 4, 257, 258, 65538, impl.MaxVersion} {
		wrong := textOfCommit(version, commitOf{[]string{b}, encHash(b, 3)})
		wantScan(t, "version "+strconv.Itoa(version), first+wrong, 3, said)
		wantScan(t, "version "+strconv.Itoa(version)+" and 2", first+wrong+second, 3, said)
		wantScan(t, "an empty version "+strconv.Itoa(version), first+documentCommitRecord(version, "")+second, 3, said)
		if version != 1 {
			wantScan(t, "version "+strconv.Itoa(version)+" at first", wrong+first, 3, impl.Scanned{})
		}
	}
	wantScan(t, "version 0", documentCommitRecord(0, "")+first, 3, impl.Scanned{})
	wantScan(t, "version 2 at first", second+first, 3, impl.Scanned{})
	wantScan(t, "all is well", first+second, 3, impl.Scanned{Nodes: []string{a, b}, Roots: []string{encHash(a, 3), encHash(b, 3)}, End: 256})
}

// leafWithZero is a leaf of whose hash one byte is zero.
func leafWithZero(at int) string {
	for i := 0; ; i++ {
		enc := leaf("key"+strconv.Itoa(i), "")
		if encHash(enc, 32)[at] == 0 {
			return enc
		}
	}
}

func TestScanOfRootsThatAreNotThere(t *testing.T) {
	a, b := leaf("a", ""), leaf("b", "")
	for _, w := range []int{1, 2, 3, 16, 31, 32} {
		hash := encHash(a, w)
		wrong := map[string]string{
			"of another node":    encHash(b, w),
			"first bit changed":  withByte(hash, 0, hash[0]^1),
			"last bit changed":   withByte(hash, w-1, hash[w-1]^128),
			"without the letter": librarySum(a)[:w],
			"of the record":      librarySum("N" + documentNodeRecord(a))[:w],
			"of the key":         librarySum("a")[:w],
			"zeros":              zeros(w),
		}
		if w < 32 {
			wrong["a byte more of the hash"] = encHash(a, w+1)
			wrong["a zero more"] = hash + "\x00"
			wrong["zeros up to 32 bytes"] = hash + zeros(32-w)
			wrong["the whole hash"] = encHash(a, 32)
		}
		if w > 1 {
			wrong["a byte less of the hash"] = encHash(a, w-1)
			wrong["one byte of the hash"] = encHash(a, 1)
		}
		first := textOfCommit(1, commitOf{[]string{a}, hash})
		said := impl.Scanned{Nodes: []string{a}, Roots: []string{hash}, End: len(first)}
		for what, root := range wrong {
			if root == hash {
				continue
			}
			wantScan(t, "a root "+what, documentNodeRecord(a)+documentCommitRecord(1, root), w, impl.Scanned{})
			behind := documentCommitRecord(2, root) + documentNodeRecord(b) + documentCommitRecord(2, encHash(b, w))
			wantScan(t, "a second root "+what, first+behind, w, said)
		}
	}
}

// A hash that ends with a zero is another text than the same one without it.
func TestScanOfRootsThatDifferInAZero(t *testing.T) {
	for _, w := range []int{2, 3, 31, 32} {
		enc := leafWithZero(w - 1)
		hash := encHash(enc, w)
		node := documentNodeRecord(enc)
		wantScan(t, "the hash", node+documentCommitRecord(1, hash), w, impl.Scanned{Nodes: []string{enc}, Roots: []string{hash}, End: 128})
		wantScan(t, "without the zero", node+documentCommitRecord(1, hash[:w-1]), w, impl.Scanned{})
		wantScan(t, "the width one less", node+documentCommitRecord(1, hash), w-1, impl.Scanned{})
	}
}

func TestScanOfARootThatComesTooLate(t *testing.T) {
	a, b := leaf("a", ""), leaf("b", "")
	first := textOfCommit(1, commitOf{[]string{a}, encHash(a, 4)})
	said := impl.Scanned{Nodes: []string{a}, Roots: []string{encHash(a, 4)}, End: len(first)}
	late := documentCommitRecord(2, encHash(b, 4)) + documentNodeRecord(b)
	wantScan(t, "the node behind its commit", first+late, 4, said)
	wantScan(t, "and a commit again", first+late+documentCommitRecord(2, encHash(b, 4)), 4, said)
	wantScan(t, "and a commit without a root", first+late+documentCommitRecord(2, ""), 4, said)
	wantScan(t, "at first", documentCommitRecord(1, encHash(a, 4))+documentNodeRecord(a)+documentCommitRecord(1, encHash(a, 4)), 4, impl.Scanned{})
}

func TestScanOfRootsOfBefore(t *testing.T) {
	a, b, c := leaf("a", ""), leaf("b", ""), leaf("c", "")
	commits := []commitOf{
		{[]string{a, b}, encHash(a, 6)},
		{nil, encHash(b, 6)},
		{[]string{c}, encHash(a, 6)},
		{nil, encHash(c, 6)},
		{nil, ""},
		{nil, encHash(c, 6)},
		{[]string{a}, encHash(b, 6)},
	}
	image, ends := logOf(commits)
	wantScan(t, "roots of before", image, 6, wholeBefore(commits, ends, len(image)))
}

func TestScanOfEmptyRoots(t *testing.T) {
	a := leaf("a", "")
	commits := []commitOf{{nil, ""}, {[]string{a, a}, ""}, {nil, ""}}
	image, ends := logOf(commits)
	for size := 0; size <= len(image); size += 64 {
		wantScan(t, "empty roots", image[:size], 7, wholeBefore(commits, ends, size))
	}
}

// What a node record holds need not be a node: nothing is decoded here.
func TestScanOfEncodingsThatAreNoNodes(t *testing.T) {
	for _, enc := range []string{"x", zeros(1), zeros(59), zeros(60), mixedText(4000), documentCommitRecord(1, "")} {
		for _, w := range []int{1, 32} {
			c := commitOf{[]string{enc}, encHash(enc, w)}
			image := textOfCommit(1, c)
			wantScan(t, "no node", image, w, impl.Scanned{Nodes: c.encs, Roots: []string{c.root}, End: len(image)})
		}
	}
}

// At the width 1 many encodings have one hash; all of them are kept.
func TestScanOfEncodingsWithOneHash(t *testing.T) {
	one, two := twinLeaves(1)
	hash := encHash(one, 1)
	commits := []commitOf{{[]string{two, one}, hash}, {[]string{two}, hash}, {nil, hash}}
	image, ends := logOf(commits)
	wantScan(t, "one hash", image, 1, wholeBefore(commits, ends, len(image)))
	wantScan(t, "the root of a twin", textOfCommit(1, commitOf{[]string{two}, hash}), 1,
		impl.Scanned{Nodes: []string{two}, Roots: []string{hash}, End: 128})
}

func TestScanOfValuesThatLookLikeCommits(t *testing.T) {
	const w = 3
	start := documentCommitRecord(1, "")
	said := impl.Scanned{Roots: []string{""}, End: 64}
	// Moved by every number of bytes, so that some of them begin where a sector does.
	for shift := range 64 {
		val := zeros(shift) + strings.Repeat(documentCommitRecord(2, ""), 5)
		rooms := zeros(shift) + forgedVal(2, 400)
		for _, enc := range []string{leaf("a", val), leaf("a", rooms)} {
			rec := documentNodeRecord(enc)
			wantScan(t, "a node that is not committed", start+rec, w, said)
			wantScan(t, "a node whose first sector is lost", start+zeros(64)+rec[64:], w, said)
			wantScan(t, "a node whose first sector is left out", start+rec[64:], w, said)
			wantScan(t, "a node whose first mark is lost", start+withByte(rec, 63, 0), w, said)
			whole := impl.Scanned{Nodes: []string{enc}, Roots: []string{"", encHash(enc, w)}, End: 128 + len(rec)}
			wantScan(t, "a node that is committed", start+rec+documentCommitRecord(2, encHash(enc, w)), w, whole)
		}
	}
}

func TestScanWithGarbageBehind(t *testing.T) {
	const w = 2
	a := leaf("a", mixedText(100))
	image := textOfCommit(1, commitOf{[]string{a}, encHash(a, w)})
	said := impl.Scanned{Nodes: []string{a}, Roots: []string{encHash(a, w)}, End: len(image)}
	node, next := documentNodeRecord(mixedText(150)), documentCommitRecord(2, "")
	for _, garbage := range []string{
		"", "x", "\x00", zeros(63), zeros(64), zeros(65), zeros(200), mixedText(1000), strings.Repeat("S", 64), strings.Repeat("M", 64),
		strings.Repeat("C", 64), strings.Repeat("S", 640), node[:191], node[:128], node[:64], node[:63], node[64:], next[:63],
		withByte(next, 63, 'c'), withByte(next, 62, 1), "x" + next, zeros(64) + next, zeros(63) + next, node[:64] + next, node[64:] + next,
	} {
		wantScan(t, "garbage "+strconv.Quote(garbage[:min(10, len(garbage))]), image+garbage, w, said)
		if garbage != "" {
			wantScan(t, "garbage before", garbage[:min(64, len(garbage))]+image, w, documentScan(garbage[:min(64, len(garbage))]+image, w))
		}
	}
}

// All short logs out of a few records and sectors, against the words of the document.
func TestScanOfAllShortLogs(t *testing.T) {
	const w = 2
	a, b := leaf("a", ""), leaf("b", mixedText(60))
	pieces := []string{
		documentNodeRecord(a), documentNodeRecord(b), documentCommitRecord(1, ""), documentCommitRecord(2, ""), documentCommitRecord(3, ""),
		documentCommitRecord(1, encHash(a, w)), documentCommitRecord(2, encHash(a, w)), documentCommitRecord(2, encHash(b, w)), zeros(64),
	}
	images := []string{""}
	for from := 0; from < len(images) && len(images) < 30000; from++ {
		for _, piece := range pieces {
			images = append(images, images[from]+piece)
		}
	}
	for _, image := range images {
		if got, want := impl.Scan(image, w), documentScan(image, w); !sameScan(got, want) {
			t.Fatalf("%q: %s, want %s", image, shownScan(got), shownScan(want))
		}
	}
}

func TestScanWithOneByteChanged(t *testing.T) {
	const w = 1
	one, left := leaf("a", "1"), leaf("b", mixedText(49))
	top := documentNode(impl.Node{Key: "c", Left: encHash(left, w)})
	image, _ := logOf([]commitOf{{[]string{one}, encHash(one, w)}, {nil, ""}, {[]string{left, top}, encHash(top, w)}, {nil, encHash(one, w)}})
	for at := range len(image) {
		for _, b := range []byte{0, 1, 2, 3, 'S', 'M', 'C', 255, image[at] ^ 1, image[at] + 1, image[at] ^ 128} {
			changed := withByte(image, at, b)
			if got, want := impl.Scan(changed, w), documentScan(changed, w); !sameScan(got, want) {
				t.Fatalf("byte %d is %d: %s, want %s", at, b, shownScan(got), shownScan(want))
			}
		}
	}
}

func TestScanAnswersNewMemory(t *testing.T) {
	commits := manyCommits(8)
	image, ends := logOf(commits)
	got := impl.Scan(image, 8)
	for i, s := range slices.Concat(got.Nodes, got.Roots) {
		if sharesMemory(s, image) {
			t.Errorf("text %d is a piece of the image", i)
		}
	}
	for i := range got.Nodes {
		got.Nodes[i] = "changed"
	}
	if !slices.Equal(got.Roots, wholeBefore(commits, ends, len(image)).Roots) {
		t.Error("the roots change with the nodes")
	}
	_ = append(got.Nodes, "more")
	_ = append(got.Roots, "more")
	wantScan(t, "again", image, 8, wholeBefore(commits, ends, len(image)))
}
