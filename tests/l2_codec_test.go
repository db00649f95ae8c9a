package tests

import (
	"encoding/binary"
	"math"
	"strconv"
	"strings"
	"testing"
	"unsafe"

	"loop.example/s03048/impl"
)

func zeros(count int) string {
	return strings.Repeat("\x00", count)
}

func withByte(s string, at int, b byte) string {
	return s[:at] + string([]byte{b}) + s[at+1:]
}

func noWidths() []int {
	return []int{0, 33, 34, 64, 256, 257, -1, -2, -32, 1<<32 + 2, math.MinInt, math.MinInt + 1, math.MaxInt}
}

// documentNode writes a node word for word as the document says.
func documentNode(n impl.Node) string {
	out := binary.BigEndian.AppendUint16(nil, uint16(len(n.Key)))
	out = append(out, n.Key...)
	out = binary.BigEndian.AppendUint16(out, uint16(len(n.Val)))
	out = append(out, n.Val...)
	flag := byte(0)
	if n.Left != "" {
		flag++
	}
	if n.Right != "" {
		flag += 2
	}
	return string(append(out, flag)) + n.Left + n.Right
}

func documentNodeRecord(enc string) string {
	body := string(binary.LittleEndian.AppendUint32(nil, uint32(len(enc)))) + enc
	for len(body)%63 != 0 {
		body += "\x00"
	}
	var out strings.Builder
	mark := "S"
	for ; body != ""; body = body[63:] {
		out.WriteString(body[:63] + mark)
		mark = "M"
	}
	return out.String()
}

func documentCommitRecord(version int, root string) string {
	body := string(binary.LittleEndian.AppendUint32(nil, uint32(version))) + string([]byte{byte(len(root))}) + root
	return body + zeros(63-len(body)) + "C"
}

// validNodes are the nodes at the edges of every size.
func validNodes(w int) []impl.Node {
	var out []impl.Node
	for _, key := range []int{1, 2, 255, 256} {
		for _, val := range []int{0, 1, 255, 256, 1999, 2000} {
			for links := range 4 {
				n := impl.Node{Key: mixedText(key), Val: mixedText(val)}
				if links&1 != 0 {
					n.Left = mixedText(w + 1)[1:]
				}
				if links&2 != 0 {
					n.Right = mixedText(w + 2)[2:]
				}
				out = append(out, n)
			}
		}
	}
	return out
}

func wantNoNode(t *testing.T, what string, s string, w int) {
	t.Helper()
	if n, ok := impl.DecodeNode(s, w); ok || n != (impl.Node{}) {
		t.Errorf("%s, width %d: read as %.40q %t", what, w, n, ok)
	}
}

func TestNodesAtEverySizeAreWrittenAndReadBack(t *testing.T) {
	for _, w := range []int{1, 2, 3, 16, 31, 32} {
		for _, n := range validNodes(w) {
			enc := impl.EncodeNode(n, w)
			if enc != documentNode(n) {
				t.Fatalf("width %d: %.40q is written %.80q", w, n, enc)
			}
			if back, ok := impl.DecodeNode(enc, w); !ok || back != n {
				t.Fatalf("width %d: %.40q comes back as %.40q %t", w, n, back, ok)
			}
		}
	}
}

func TestNodesOfZerosAndOfHighBytes(t *testing.T) {
	for _, b := range []string{"\x00", "\xff", "\x80", "N"} {
		n := impl.Node{Key: strings.Repeat(b, 5), Val: strings.Repeat(b, 300), Left: strings.Repeat(b, 4), Right: strings.Repeat(b, 4)}
		enc := impl.EncodeNode(n, 4)
		back, ok := impl.DecodeNode(enc, 4)
		if enc != documentNode(n) || back != n || !ok {
			t.Errorf("%q: %q, back as %v %t", b, enc, back, ok)
		}
	}
}

func TestNodesThatAreNotValid(t *testing.T) {
	for _, w := range []int{1, 2, 31, 32} {
		link := mixedText(w)
		bad := []impl.Node{
			{},
			{Val: "v", Left: link, Right: link},
			{Key: mixedText(257)},
			{Key: mixedText(65536)},
			{Key: mixedText(65537), Val: "v"},
			{Key: "k", Val: mixedText(2001)},
			{Key: "k", Val: mixedText(65536)},
			{Key: "k", Left: mixedText(w + 1)},
			{Key: "k", Right: mixedText(w + 1)},
			{Key: "k", Left: link, Right: mixedText(w + 1)},
			{Key: "k", Left: mixedText(w + 1), Right: link},
			{Key: "k", Left: mixedText(2 * w)},
			{Key: "k", Right: mixedText(2 * w)},
		}
		if w > 1 {
			bad = append(bad,
				impl.Node{Key: "k", Left: mixedText(w - 1)},
				impl.Node{Key: "k", Right: mixedText(w - 1)})
		}
		for i, n := range bad {
			if impl.EncodeNode(n, w) != "" || impl.NodeHash(n, w) != "" {
				t.Errorf("width %d: node %d is written", w, i)
			}
			wantNoNode(t, "what node "+strconv.Itoa(i)+" would be", documentNode(n), w)
		}
	}
}

func TestNodesAtNoWidth(t *testing.T) {
	for _, w := range noWidths() {
		nodes := []impl.Node{{Key: "k"}, {Key: "k", Val: "v"}, {Key: "k", Left: mixedText(33)}, {Key: "k", Right: mixedText(33)}}
		for _, n := range nodes {
			if impl.EncodeNode(n, w) != "" || impl.NodeHash(n, w) != "" {
				t.Errorf("%d: %v is written", w, n)
			}
			wantNoNode(t, "a node", documentNode(n), w)
		}
		wantNoNode(t, "nothing", "", w)
	}
}

func TestTextsThatAreNearlyANode(t *testing.T) {
	for _, w := range []int{1, 2, 31, 32} {
		for _, n := range validNodes(w) {
			enc := documentNode(n)
			wantNoNode(t, "a byte more", enc+"\x00", w)
			wantNoNode(t, "a byte before", "\x00"+enc, w)
			wantNoNode(t, "a byte less", enc[:len(enc)-1], w)
			wantNoNode(t, "the first byte less", enc[1:], w)
			wantNoNode(t, "twice", enc+enc, w)
			wantNoNode(t, "half", enc[:len(enc)/2], w)
			if n.Left == "" && n.Right == "" {
				continue
			}
			for _, other := range []int{w - 1, w + 1, 2 * w} {
				wantNoNode(t, "another width", enc, other)
			}
		}
	}
}

// A node without links is the same text at every width.
func TestALeafAtEveryWidth(t *testing.T) {
	n := impl.Node{Key: "key", Val: "value"}
	for w := 1; w <= 32; w++ {
		enc := impl.EncodeNode(n, w)
		back, ok := impl.DecodeNode(enc, w)
		if enc != "\x00\x03key\x00\x05value\x00" || back != n || !ok {
			t.Errorf("width %d: %q, back as %v %t", w, enc, back, ok)
		}
	}
}

func TestFlagsThatDoNotFitTheLinks(t *testing.T) {
	const w = 3
	for links := range 3 {
		head := "\x00\x01k\x00\x01v"
		tail := mixedText(links * w)
		for flag := range 256 {
			s := head + string([]byte{byte(flag)}) + tail
			fits := flag == 0 && links == 0 || (flag == 1 || flag == 2) && links == 1 || flag == 3 && links == 2
			n, ok := impl.DecodeNode(s, w)
			if ok != fits {
				t.Errorf("flag %d with %d links: %t", flag, links, ok)
			}
			if fits != (documentNode(n) == s) {
				t.Errorf("flag %d with %d links is read as %v", flag, links, n)
			}
		}
	}
}

func TestSizesPastTheEndOfANode(t *testing.T) {
	for _, s := range []string{
		"", "\x00", "\x01", "\x00\x00", "\x00\x01", "\x00\x01k", "\x00\x01k\x00", "\x00\x01k\x00\x00", "\x00\x01k\x00\x01", "\x00\x01k\x00\x01v",
		"\x00\x02k", "\x00\x05k\x00\x00\x00", "\xff\xffk\x00\x00\x00", "\x01\x00k\x00\x00\x00",
		"\x00\x01k\x00\x02\x00", "\x00\x01k\xff\xff\x00", "\x00\x01k\x07\xd0\x00", "\x00\x00\x00\x00\x00", "\x00\x00\x00\x01v\x00",
	} {
		wantNoNode(t, strconv.Quote(s), s, 2)
	}
}

// A text with one byte changed is either no node or the encoding of what is read.
func TestNodesWithOneByteChanged(t *testing.T) {
	for _, n := range []impl.Node{
		{Key: "k"}, {Key: "key", Val: "value"}, {Key: "key", Left: "LL"}, {Key: "key", Right: "RR"},
		{Key: "key", Val: "value", Left: "LL", Right: "RR"}, {Key: mixedText(256), Val: mixedText(300), Left: "LL"},
	} {
		enc := documentNode(n)
		for at := range len(enc) {
			for b := range 256 {
				s := withByte(enc, at, byte(b))
				back, ok := impl.DecodeNode(s, 2)
				if ok && impl.EncodeNode(back, 2) != s || !ok && back != (impl.Node{}) {
					t.Fatalf("byte %d is %d: read as %v %t", at, b, back, ok)
				}
			}
		}
		places := []int{0, 1, len(n.Key) + 2, len(n.Key) + 3, len(n.Key) + len(n.Val) + 4}
		for _, at := range places {
			for _, b := range []byte{enc[at] + 4, enc[at] ^ 0x80} {
				wantNoNode(t, "byte "+strconv.Itoa(at), withByte(enc, at, b), 2)
			}
		}
	}
}

// Of all short texts over a few bytes exactly the encodings of nodes are read.
func TestAllShortTexts(t *testing.T) {
	bytesUsed := []string{"\x00", "\x01", "\x02", "\x03", "\x04"}
	texts := [][]string{{""}}
	for size := 1; size <= 8; size++ {
		var longer []string
		for _, s := range texts[size-1] {
			for _, b := range bytesUsed {
				longer = append(longer, s+b)
			}
		}
		texts = append(texts, longer)
	}
	nodes := map[string]impl.Node{}
	for _, keys := range texts[1:4] {
		for _, key := range keys {
			for val := 0; len(key)+val <= 3; val++ {
				for _, v := range texts[val] {
					for left := 0; left <= 1; left++ {
						for right := 0; right <= 1; right++ {
							for _, links := range texts[left+right] {
								n := impl.Node{Key: key, Val: v, Left: links[:left], Right: links[left:]}
								nodes[documentNode(n)] = n
							}
						}
					}
				}
			}
		}
	}
	for _, some := range texts {
		for _, s := range some {
			want, isNode := nodes[s]
			if got, ok := impl.DecodeNode(s, 1); ok != isNode || got != want {
				t.Fatalf("%q is read as %v %t, want %v %t", s, got, ok, want, isNode)
			}
		}
	}
}

func TestNodeHashIsTheDigestOfTheText(t *testing.T) {
	for w := 1; w <= 32; w++ {
		link := mixedText(w)
		for _, n := range []impl.Node{{Key: "k"}, {Key: "k", Val: mixedText(2000)}, {Key: mixedText(256), Left: link}, {Key: "k", Right: link}, {Key: "k", Val: "v", Left: link, Right: link}} {
			want := librarySum("N" + documentNode(n))[:w]
			if got := impl.NodeHash(n, w); got != want || got != impl.Digest("N"+impl.EncodeNode(n, w), w) {
				t.Errorf("width %d: %.40q: %x, want %x", w, n, got, want)
			}
		}
	}
}

// shown is short where the record is long.
func shown(r impl.Record) string {
	return strings.Join([]string{
		"kind", strconv.Itoa(r.Kind), "enc of", strconv.Itoa(len(r.Enc)), "version", strconv.Itoa(r.Version),
		"root", strconv.Quote(r.Root), "next", strconv.Itoa(r.Next)}, " ")
}

func TestNodeRecordsAtEverySize(t *testing.T) {
	for size := 1; size <= 4000; size++ {
		enc := mixedText(size)
		s := impl.NodeRecord(enc)
		if s != documentNodeRecord(enc) {
			t.Fatalf("%d bytes: %.140q", size, s)
		}
		want := impl.Record{Kind: impl.RecNode, Enc: enc, Next: (size + 4 + 62) / 63}
		if got := impl.ReadRecord(s, 0); got != want || len(s) != want.Next*impl.Sector {
			t.Fatalf("%d bytes: read as %s", size, shown(got))
		}
	}
	sectors := map[int]int{1: 1, 58: 1, 59: 1, 60: 2, 121: 2, 122: 2, 123: 3, 3999: 64, 4000: 64}
	for size, want := range sectors {
		if got := len(impl.NodeRecord(mixedText(size))); got != want*impl.Sector {
			t.Errorf("%d bytes take %d, want %d sectors", size, got, want)
		}
	}
}

func TestNodeRecordsOfZerosAndMarks(t *testing.T) {
	for _, b := range []string{"\x00", "S", "M", "C", "\xff"} {
		for _, size := range []int{1, 59, 60, 122, 123, 4000} {
			enc := strings.Repeat(b, size)
			s := impl.NodeRecord(enc)
			if got := impl.ReadRecord(s, 0); s != documentNodeRecord(enc) || got != (impl.Record{Kind: impl.RecNode, Enc: enc, Next: len(s) / impl.Sector}) {
				t.Errorf("%d times %q: read as %s", size, b, shown(got))
			}
		}
	}
}

func TestNodeRecordsThatAreNotWritten(t *testing.T) {
	for _, size := range []int{0, 4001, 4002, 4028, 4029, 65536, 65537, 1 << 20} {
		if got := impl.NodeRecord(mixedText(size)); got != "" {
			t.Errorf("%d bytes are written in %d", size, len(got))
		}
	}
}

func TestNodeRecordsOfASizeThatIsNotWritten(t *testing.T) {
	images := map[string]string{
		"0 bytes":    zeros(63) + "S",
		"4001 bytes": documentNodeRecord(mixedText(4001)),
		"5000 bytes": documentNodeRecord(mixedText(5000)),
		"65537":      documentNodeRecord(mixedText(65537)),
		"2 to the 31": "\x00\x00\x00\x80" + zeros(59) + "S" +
			strings.Repeat(zeros(63)+"M", 100),
		"2 to the 32 less 1": "\xff\xff\xff\xff" + zeros(59) + "S" + strings.Repeat(zeros(63)+"M", 100),
		"2 to the 24 and 5":  "\x05\x00\x00\x01hello" + zeros(54) + "S" + strings.Repeat(zeros(63)+"M", 100),
	}
	for what, image := range images {
		if got := impl.ReadRecord(image, 0); got != (impl.Record{}) {
			t.Errorf("%s: %s", what, shown(got))
		}
	}
}

func TestCommitRecordsAtEverySize(t *testing.T) {
	for _, version := range []int{1, 2, 255, 256, 258, 65535, 65536, 999999, impl.MaxVersion} {
		for size := 0; size <= 32; size++ {
			root := mixedText(size)
			s := impl.CommitRecord(version, root)
			if s != documentCommitRecord(version, root) || len(s) != impl.Sector {
				t.Fatalf("version %d, root of %d bytes: %q", version, size, s)
			}
			want := impl.Record{Kind: impl.RecCommit, Version: version, Root: root, Next: 1}
			if got := impl.ReadRecord(s, 0); got != want {
				t.Fatalf("version %d, root of %d bytes: read as %s", version, size, shown(got))
			}
		}
	}
	if got := impl.ReadRecord(impl.CommitRecord(7, zeros(32)), 0); got.Root != zeros(32) {
		t.Errorf("a root of zeros: %s", shown(got))
	}
}

func TestCommitRecordsThatAreNotWritten(t *testing.T) {
	for _, version := range []int{0, -1, impl.MaxVersion + 1, 1<<32 + 1, -1 << 32, math.MinInt, math.MaxInt} {
		for _, root := range []string{"", "r", mixedText(32)} {
			if got := impl.CommitRecord(version, root); got != "" {
				t.Errorf("version %d is written %q", version, got)
			}
			if got := impl.ReadRecord(documentCommitRecord(version, root), 0); uint32(version) != 1 && got != (impl.Record{}) {
				t.Errorf("version %d is read as %s", version, shown(got))
			}
		}
	}
	for _, size := range []int{33, 34, 58, 59, 255, 256, 257, 288} {
		if got := impl.CommitRecord(1, mixedText(size)); got != "" {
			t.Errorf("a root of %d bytes is written %q", size, got)
		}
	}
}

func TestCommitSectorsWithAWrongSize(t *testing.T) {
	good := documentCommitRecord(3, strings.Repeat("r", 32))
	for size := range 256 {
		got := impl.ReadRecord(withByte(good, 4, byte(size)), 0)
		if size == 32 && got.Kind != impl.RecCommit || size != 32 && got != (impl.Record{}) {
			t.Errorf("size %d: %s", size, shown(got))
		}
	}
	for size := 33; size < 256; size++ {
		image := withByte(documentCommitRecord(3, ""), 4, byte(size))
		if got := impl.ReadRecord(image+image, 0); got != (impl.Record{}) {
			t.Errorf("size %d of zeros: %s", size, shown(got))
		}
	}
	wide := documentCommitRecord(3, strings.Repeat("r", 58))
	if got := impl.ReadRecord(wide, 0); got != (impl.Record{}) {
		t.Errorf("a root that fills the sector: %s", shown(got))
	}
}

// manyRecords has records of one, two, three and more sectors, with their texts one after the other.
func manyRecords() ([]string, []impl.Record) {
	var texts []string
	var records []impl.Record
	for i, size := range []int{1, 58, 59, 60, 121, 122, 123, 300, 3999, 4000} {
		enc, root := mixedText(size), mixedText(size%33)
		texts = append(texts, documentNodeRecord(enc), documentCommitRecord(i+1, root))
		records = append(records, impl.Record{Kind: impl.RecNode, Enc: enc}, impl.Record{Kind: impl.RecCommit, Version: i + 1, Root: root})
	}
	return texts, records
}

func TestRecordsAreReadWhereverTheyBegin(t *testing.T) {
	texts, records := manyRecords()
	image, sector := "", 0
	var places []int
	for i, s := range texts {
		places = append(places, sector)
		image += s
		sector += len(s) / impl.Sector
		want := records[i]
		want.Next = sector
		if got := impl.ReadRecord(image, places[i]); got != want {
			t.Fatalf("record %d at the image's end: %s", i, shown(got))
		}
	}
	tails := []string{"", "\x00", "x", zeros(63), zeros(64), mixedText(100), "S", strings.Repeat("M", 640), strings.Repeat("C", 640)}
	for _, tail := range tails {
		for i := range texts {
			want := records[i]
			want.Next = places[i] + len(texts[i])/impl.Sector
			if got := impl.ReadRecord(image+tail, places[i]); got != want {
				t.Fatalf("record %d with %.10q behind all: %s", i, tail, shown(got))
			}
		}
		if got := impl.ReadRecord(image+tail, sector); tail != "" && got != (impl.Record{}) {
			t.Errorf("%.10q is read as %s", tail, shown(got))
		}
	}
}

func TestRecordsBehindAnythingAndBeforeAnything(t *testing.T) {
	texts, records := manyRecords()
	for before := range 4 {
		for _, front := range []string{zeros(64 * before), strings.Repeat("S", 64*before), strings.Repeat("M", 64*before), strings.Repeat("C", 64*before)} {
			for _, behind := range []string{"", "M", strings.Repeat("M", 64), strings.Repeat("\xff", 200)} {
				for i, s := range texts {
					want := records[i]
					want.Next = before + len(s)/impl.Sector
					if got := impl.ReadRecord(front+s+behind, before); got != want {
						t.Fatalf("record %d behind %d sectors: %s", i, before, shown(got))
					}
				}
			}
		}
	}
}

// A place that is no beginning of a sector of the image is never looked at.
func TestRecordsThatDoNotBeginAtASector(t *testing.T) {
	s := documentCommitRecord(1, "r")
	for before := 1; before < 64; before++ {
		image := zeros(before) + s + zeros(200)
		for sector := range 4 {
			if got := impl.ReadRecord(image, sector); got != (impl.Record{}) {
				t.Errorf("%d bytes before it, sector %d: %s", before, sector, shown(got))
			}
		}
	}
}

func TestSectorsThatAreNotThere(t *testing.T) {
	one, two := documentCommitRecord(1, "r"), documentNodeRecord(mixedText(100))
	for _, image := range []string{"", "x", one, two, one + two + one, one[:63], one + two[:127]} {
		for _, sector := range []int{
			-1, -2, -64, math.MinInt, math.MinInt + 1, math.MinInt / 64, math.MinInt/64 - 1, 4, 5, 64, 1000000,
			math.MaxInt / 64, math.MaxInt/64 + 1, 1 << 57, 1 << 58, 1<<58 + 1, 1 << 59, 1<<62 + 1, math.MaxInt - 1, math.MaxInt,
		} {
			if got := impl.ReadRecord(image, sector); got != (impl.Record{}) {
				t.Errorf("sector %d of %d bytes: %s", sector, len(image), shown(got))
			}
		}
	}
	if got := impl.ReadRecord("", 0); got != (impl.Record{}) {
		t.Errorf("sector 0 of nothing: %s", shown(got))
	}
}

func TestRecordsThatAreCutOff(t *testing.T) {
	texts, _ := manyRecords()
	for i, s := range texts {
		for size := range len(s) {
			if got := impl.ReadRecord(s[:size], 0); got != (impl.Record{}) {
				t.Fatalf("record %d cut to %d bytes: %s", i, size, shown(got))
			}
		}
	}
}

// Promise 3, for every sector of every record.
func TestASectorThatHasLostItsEnd(t *testing.T) {
	texts, _ := manyRecords()
	for i, s := range texts {
		for end := 63; end < len(s); end += 64 {
			lost := withByte(s, end, 0)
			if got := impl.ReadRecord(lost, 0); got != (impl.Record{}) {
				t.Errorf("record %d without the end of sector %d: %s", i, end/64, shown(got))
			}
			if got := impl.ReadRecord(s+lost+s, len(s)/64); got != (impl.Record{}) {
				t.Errorf("record %d without the end of sector %d, between others: %s", i, end/64, shown(got))
			}
		}
	}
}

func TestMarksThatAreWrongForTheirPlace(t *testing.T) {
	texts, _ := manyRecords()
	for i, s := range texts {
		for end := 63; end < len(s); end += 64 {
			for _, mark := range []byte{0, 1, 32, 66, 67, 68, 76, 77, 78, 82, 83, 84, 99, 109, 115, 128, 195, 205, 211, 255} {
				changed := withByte(s, end, mark)
				if got := impl.ReadRecord(changed, 0); got != documentRead(changed) {
					t.Fatalf("record %d, mark %d behind sector %d: %s", i, mark, end/64, shown(got))
				}
			}
		}
	}
}

func TestMarksThatAreExchanged(t *testing.T) {
	s := documentNodeRecord(mixedText(150))
	for _, marks := range []string{"SSM", "SMS", "SSS", "MMM", "MSM", "MMS", "CMM", "SCM", "SMC", "sMM", "Smm"} {
		image := s
		for i := range 3 {
			image = withByte(image, 64*i+63, marks[i])
		}
		if got := impl.ReadRecord(image, 0); got != (impl.Record{}) {
			t.Errorf("%s: %s", marks, shown(got))
		}
	}
}

// The sectors behind the first of a node's record are no place where a record begins.
func TestTheMiddleOfARecord(t *testing.T) {
	s := documentNodeRecord(strings.Repeat(documentCommitRecord(1, "r"), 10))
	for sector := 1; sector < len(s)/64; sector++ {
		if got := impl.ReadRecord(s, sector); got != (impl.Record{}) {
			t.Errorf("sector %d: %s", sector, shown(got))
		}
	}
}

func TestZerosThatAreNotZero(t *testing.T) {
	for _, size := range []int{1, 58, 60, 121, 123, 300, 4000} {
		enc := mixedText(size)
		s := documentNodeRecord(enc)
		for at := len(s) - 1 - (63-(size+4)%63)%63; at < len(s)-1; at++ {
			for _, b := range []byte{1, 128, 255, ' ', 'S'} {
				if got := impl.ReadRecord(withByte(s, at, b), 0); got != (impl.Record{}) {
					t.Errorf("an encoding of %d bytes, byte %d is %d: %s", size, at, b, shown(got))
				}
			}
		}
	}
	for size := range 33 {
		s := documentCommitRecord(1, mixedText(size))
		for at := 5 + size; at < 63; at++ {
			for _, b := range []byte{1, 128, 255, ' ', 'S'} {
				if got := impl.ReadRecord(withByte(s, at, b), 0); got != (impl.Record{}) {
					t.Errorf("a root of %d bytes, byte %d is %d: %s", size, at, b, shown(got))
				}
			}
		}
	}
}

// documentRead looks for what would be written in the bytes that stand there.
func documentRead(image string) impl.Record {
	var rooms strings.Builder
	for at := 0; at+64 <= len(image); at += 64 {
		rooms.WriteString(image[at : at+63])
	}
	body := rooms.String()
	if len(body) < 63 {
		return impl.Record{}
	}
	first := binary.LittleEndian.Uint32([]byte(body[:4]))
	if size := int(first); 1 <= size && size <= 4000 && size+4 <= len(body) {
		s := documentNodeRecord(body[4 : 4+size])
		if strings.HasPrefix(image, s) {
			return impl.Record{Kind: impl.RecNode, Enc: body[4 : 4+size], Next: len(s) / 64}
		}
	}
	if size := int(body[4]); size <= 32 && 1 <= first && first <= 1000000 {
		if strings.HasPrefix(image, documentCommitRecord(int(first), body[5:5+size])) {
			return impl.Record{Kind: impl.RecCommit, Version: int(first), Root: body[5 : 5+size], Next: 1}
		}
	}
	return impl.Record{}
}

func TestRecordsWithOneByteChanged(t *testing.T) {
	images := []string{
		documentNodeRecord("k") + documentCommitRecord(1, "r"),
		documentNodeRecord(mixedText(60)) + strings.Repeat(zeros(63)+"M", 2),
		documentNodeRecord(zeros(130)),
		documentCommitRecord(1, ""),
		documentCommitRecord(1000000, mixedText(32)) + zeros(64),
	}
	for i, image := range images {
		for at := range len(image) {
			for b := range 256 {
				changed := withByte(image, at, byte(b))
				if got, want := impl.ReadRecord(changed, 0), documentRead(changed); got != want {
					t.Fatalf("image %d, byte %d is %d: %s, want %s", i, at, b, shown(got), shown(want))
				}
			}
		}
	}
}

func sharesMemory(a string, b string) bool {
	if a == "" || b == "" {
		return false
	}
	from, to := uintptr(unsafe.Pointer(unsafe.StringData(a))), uintptr(unsafe.Pointer(unsafe.StringData(b)))
	return from < to+uintptr(len(b)) && to < from+uintptr(len(a))
}

func TestWhatIsReadIsNewMemory(t *testing.T) {
	enc := documentNode(impl.Node{Key: "key", Val: "value", Left: "LL", Right: "RR"})
	n, _ := impl.DecodeNode(enc, 2)
	for _, s := range []string{n.Key, n.Val, n.Left, n.Right} {
		if s == "" || sharesMemory(s, enc) {
			t.Errorf("%q is a piece of the encoding", s)
		}
	}
	image := documentNodeRecord(enc) + documentCommitRecord(1, "root")
	node, commit := impl.ReadRecord(image, 0), impl.ReadRecord(image, 1)
	for _, s := range []string{node.Enc, commit.Root} {
		if s == "" || sharesMemory(s, image) {
			t.Errorf("%q is a piece of the image", s)
		}
	}
}
