package tests

import (
	"encoding/binary"
	"slices"
	"strconv"
	"testing"

	"loop.example/s03048/impl"
)

// What stands here goes by the words of the document's chapter 5, with no function of that chapter.

// looseProof is the proof of a subtree, which need keep to no rule but that of how it is written.
type looseProof struct {
	letter      byte
	key, val    string
	hash        string
	left, right *looseProof
}

func sizedText(s string) string {
	return string(binary.BigEndian.AppendUint16(nil, uint16(len(s)))) + s
}

// fullPart is what an F writes before the proofs of its subtrees.
func fullPart(key string, val string) string {
	return "F" + sizedText(key) + sizedText(val)
}

func (p *looseProof) text() string {
	switch p.letter {
	case 'F':
		return fullPart(p.key, p.val) + p.left.text() + p.right.text()
	case 'S':
		return "S" + p.hash
	}
	return string([]byte{p.letter})
}

// whole is the hash of the proof, also where the sizes of its texts are none that a node has.
func (p *looseProof) whole(w int) string {
	switch p.letter {
	case 'F':
		return encHash(p.enc(w), w)
	case 'S':
		return p.hash
	}
	return ""
}

func (p *looseProof) enc(w int) string {
	return documentNode(impl.Node{Key: p.key, Val: p.val, Left: p.left.whole(w), Right: p.right.whole(w)})
}

// parts are all of a proof, each before those below it.
func (p *looseProof) parts() []*looseProof {
	if p == nil {
		return nil
	}
	return slices.Concat([]*looseProof{p}, p.left.parts(), p.right.parts())
}

func (p *looseProof) count(letter byte) int {
	count := 0
	for _, part := range p.parts() {
		if part.letter == letter {
			count++
		}
	}
	return count
}

// cutPiece gives the piece of a size at the beginning of a text, and the rest.
func cutPiece(s string, size int) (string, string, bool) {
	if len(s) < size {
		return "", "", false
	}
	return s[:size], s[size:], true
}

func cutSized(s string) (string, string, bool) {
	size, rest, ok := cutPiece(s, 2)
	if !ok {
		return "", "", false
	}
	return cutPiece(rest, int(binary.BigEndian.Uint16([]byte(size))))
}

// parsedProof asks for nothing but how a proof is written, and gives what stands behind it, too.
func parsedProof(s string, w int) (*looseProof, string, bool) {
	letter, s, ok := cutPiece(s, 1)
	if !ok {
		return nil, "", false
	}
	p := &looseProof{letter: letter[0]}
	switch letter {
	case "E":
		return p, s, true
	case "S":
		p.hash, s, ok = cutPiece(s, w)
		return p, s, ok
	case "F":
		if p.key, s, ok = cutSized(s); !ok {
			return nil, "", false
		}
		if p.val, s, ok = cutSized(s); !ok {
			return nil, "", false
		}
		if p.left, s, ok = parsedProof(s, w); !ok {
			return nil, "", false
		}
		p.right, s, ok = parsedProof(s, w)
		return p, s, ok
	}
	return nil, "", false
}

// The rules that Verify names, each by a word.
const (
	ruleWidth  = "width"
	ruleRoot   = "size of the root"
	ruleForm   = "one whole proof"
	ruleStub   = "S where a key can be"
	ruleFull   = "F where none can be"
	ruleMany   = "too many F"
	ruleKey    = "size of a key"
	ruleVal    = "size of a value"
	ruleSide   = "side of a key"
	ruleHeight = "height of a key"
	ruleHash   = "hash of the whole"
)

// brokenRules are all that a text breaks; what is not written as a proof breaks that rule alone.
func brokenRules(w int, root string, lo string, hi string, text string) ([]string, *looseProof) {
	if w < 1 || w > 32 {
		return []string{ruleWidth}, nil
	}
	p, rest, ok := parsedProof(text, w)
	if !ok || rest != "" {
		return []string{ruleForm}, nil
	}
	var broken []string
	if root != "" && len(root) != w {
		broken = append(broken, ruleRoot)
	}
	if p.count('F') > 500 {
		broken = append(broken, ruleMany)
	}
	if p.whole(w) != root {
		broken = append(broken, ruleHash)
	}
	broken = append(broken, p.brokenBelow(&documentLoading{lo: lo, hi: hi}, nil)...)
	slices.Sort(broken)
	return slices.Compact(broken), p
}

func (p *looseProof) brokenBelow(d *documentLoading, above []placeAbove) []string {
	var broken []string
	if p.letter == 'S' && !d.canNot(above) {
		broken = append(broken, ruleStub)
	}
	if p.letter != 'F' {
		return broken
	}
	if d.canNot(above) {
		broken = append(broken, ruleFull)
	}
	if len(p.key) < 1 || len(p.key) > 256 {
		broken = append(broken, ruleKey)
	}
	if len(p.val) > 2000 {
		broken = append(broken, ruleVal)
	}
	for _, a := range above {
		if a.inLeft && !(p.key < a.key) || !a.inLeft && !(p.key > a.key) {
			broken = append(broken, ruleSide)
		}
	}
	if len(above) > 0 && !documentHigher(above[len(above)-1].key, p.key) {
		broken = append(broken, ruleHeight)
	}
	broken = append(broken, p.left.brokenBelow(d, append(slices.Clone(above), placeAbove{p.key, true}))...)
	return append(broken, p.right.brokenBelow(d, append(slices.Clone(above), placeAbove{p.key, false}))...)
}

func isWithin(key string, lo string, hi string) bool {
	return lo <= key && (hi == "" || key < hi)
}

func pairsBetween(ps []impl.Pair, lo string, hi string) []impl.Pair {
	return slices.DeleteFunc(slices.Clone(ps), func(p impl.Pair) bool { return !isWithin(p.Key, lo, hi) })
}

// shownPairs are those of all F, by key.
func (p *looseProof) shownPairs(lo string, hi string) []impl.Pair {
	var ps []impl.Pair
	for _, part := range p.parts() {
		if part.letter == 'F' {
			ps = append(ps, impl.Pair{Key: part.key, Val: part.val})
		}
	}
	slices.SortFunc(ps, byKey)
	return pairsBetween(ps, lo, hi)
}

func documentVerify(w int, root string, lo string, hi string, text string) ([]impl.Pair, bool) {
	broken, p := brokenRules(w, root, lo, hi, text)
	if len(broken) > 0 {
		return nil, false
	}
	return p.shownPairs(lo, hi), true
}

// cutDown is the proof of a tree for the bounds.
func cutDown(f *forged, lo string, hi string, w int) *looseProof {
	return (&documentLoading{lo: lo, hi: hi}).cutBelow(f, w, nil)
}

func (d *documentLoading) cutBelow(f *forged, w int, above []placeAbove) *looseProof {
	if f == nil {
		return &looseProof{letter: 'E'}
	}
	if d.canNot(above) {
		_, hash := f.write(w)
		return &looseProof{letter: 'S', hash: hash}
	}
	p := &looseProof{letter: 'F', key: f.key, val: f.val}
	p.left = d.cutBelow(f.left, w, append(slices.Clone(above), placeAbove{f.key, true}))
	p.right = d.cutBelow(f.right, w, append(slices.Clone(above), placeAbove{f.key, false}))
	return p
}

func documentProve(p impl.Pool, root string, lo string, hi string) (string, int) {
	if _, code := documentRange(p, root, lo, hi); code != impl.TreeOk {
		return "", code
	}
	return (&documentLoading{pool: p, first: firstOnes(p), lo: lo, hi: hi}).proofOf(root, nil), impl.TreeOk
}

func (d *documentLoading) proofOf(hash string, above []placeAbove) string {
	if hash == "" {
		return "E"
	}
	if d.canNot(above) {
		return "S" + hash
	}
	n, _ := impl.DecodeNode(d.first[hash], d.pool.W)
	return fullPart(n.Key, n.Val) +
		d.proofOf(n.Left, append(slices.Clone(above), placeAbove{n.Key, true})) +
		d.proofOf(n.Right, append(slices.Clone(above), placeAbove{n.Key, false}))
}

func documentExtract(w int, root string, lo string, hi string, one string, two string) (string, string, bool) {
	if !proofsDisagree(w, root, lo, hi, one, two) {
		return "", "", false
	}
	p, _, _ := parsedProof(one, w)
	q, _, _ := parsedProof(two, w)
	return firstTwins(p, q, w)
}

func firstTwins(p *looseProof, q *looseProof, w int) (string, string, bool) {
	if p.letter != 'F' || q.letter != 'F' {
		return "", "", false
	}
	if p.enc(w) != q.enc(w) {
		return "N" + p.enc(w), "N" + q.enc(w), true
	}
	if a, b, ok := firstTwins(p.left, q.left, w); ok {
		return a, b, true
	}
	return firstTwins(p.right, q.right, w)
}

func betweenBounds(what string, w int, lo string, hi string) string {
	return what + ", width " + strconv.Itoa(w) + ", from " + strconv.Quote(lo) + " to " + strconv.Quote(hi)
}

// wantProve holds a proof to the document, its code to Range, and what it shows to the pairs of Range.
func wantProve(t *testing.T, what string, p impl.Pool, root string, lo string, hi string) (string, int) {
	t.Helper()
	what = betweenBounds(what, p.W, lo, hi)
	want, wantCode := documentProve(p, root, lo, hi)
	got, code := impl.Prove(p, root, lo, hi)
	if got != want || code != wantCode {
		t.Errorf("%s: %.200q, code %d\nwant %.200q, code %d", what, got, code, want, wantCode)
	}
	ps, ranged := impl.Range(p, root, lo, hi)
	if code != ranged || code != impl.TreeOk && got != "" {
		t.Errorf("%s: %.200q, code %d, that of Range is %d", what, got, code, ranged)
	}
	if code == impl.TreeOk {
		wantShown(t, what, p.W, root, lo, hi, got, ps)
	}
	return got, code
}

func wantShown(t *testing.T, what string, w int, root string, lo string, hi string, proof string, want []impl.Pair) {
	t.Helper()
	if got, ok := impl.Verify(w, root, lo, hi, proof); !ok || !slices.Equal(got, want) {
		t.Errorf("%s: shown %.200q, %t\nwant %.200q", betweenBounds(what, w, lo, hi), got, ok, want)
	}
}

func wantRefused(t *testing.T, what string, w int, root string, lo string, hi string, proof string) {
	t.Helper()
	if got, ok := impl.Verify(w, root, lo, hi, proof); ok || len(got) > 0 {
		t.Errorf("%s: %.200q is accepted: %.200q", betweenBounds(what, w, lo, hi), proof, got)
	}
}

// wantVerify holds an answer to the document, and gives the rules that the text breaks.
func wantVerify(t *testing.T, what string, w int, root string, lo string, hi string, proof string) []string {
	t.Helper()
	want, wantOk := documentVerify(w, root, lo, hi, proof)
	got, ok := impl.Verify(w, root, lo, hi, proof)
	broken, _ := brokenRules(w, root, lo, hi, proof)
	if ok != wantOk || !slices.Equal(got, want) {
		t.Errorf("%s: %.200q: %.200q, %t\nwant %.200q, %t, broken: %v", betweenBounds(what, w, lo, hi), proof, got, ok, want, wantOk, broken)
	}
	return broken
}

// wantBroken is a text that breaks one rule and no other.
func wantBroken(t *testing.T, what string, rule string, w int, root string, lo string, hi string, proof string) {
	t.Helper()
	if broken := wantVerify(t, what, w, root, lo, hi, proof); !slices.Equal(broken, []string{rule}) {
		t.Errorf("%s: the broken rules are %v", what, broken)
	}
	wantRefused(t, what, w, root, lo, hi, proof)
}

func wantExtract(t *testing.T, what string, w int, root string, lo string, hi string, one string, two string) bool {
	t.Helper()
	what = betweenBounds(what, w, lo, hi)
	wantA, wantB, wantOk := documentExtract(w, root, lo, hi, one, two)
	a, b, ok := impl.Extract(w, root, lo, hi, one, two)
	if a != wantA || b != wantB || ok != wantOk {
		t.Errorf("%s: %.80q %.80q %t\nwant %.80q %.80q %t", what, a, b, ok, wantA, wantB, wantOk)
	}
	b, a, ok = impl.Extract(w, root, lo, hi, two, one)
	if a != wantA || b != wantB || ok != wantOk {
		t.Errorf("%s, the other way: %.80q %.80q %t", what, b, a, ok)
	}
	if ok {
		wantTwins(t, what, a, b, w)
	}
	if disagree := proofsDisagree(w, root, lo, hi, one, two); ok != disagree {
		t.Errorf("%s: %t, though it is %t that the proofs disagree", what, ok, disagree)
	}
	return ok
}

func proofsDisagree(w int, root string, lo string, hi string, one string, two string) bool {
	ps, ok := documentVerify(w, root, lo, hi, one)
	qs, too := documentVerify(w, root, lo, hi, two)
	return ok && too && !slices.Equal(ps, qs)
}

func wantNothingExtracted(t *testing.T, what string, w int, root string, lo string, hi string, one string, two string) {
	t.Helper()
	for _, texts := range [][2]string{{one, two}, {two, one}} {
		if a, b, ok := impl.Extract(w, root, lo, hi, texts[0], texts[1]); a != "" || b != "" || ok {
			t.Errorf("%s: %.80q %.80q %t", betweenBounds(what, w, lo, hi), a, b, ok)
		}
	}
}
