package impl

import (
	"strings"
	"testing"
)

func writtenPart(p subproof) string {
	var b strings.Builder
	p.put(&b)
	return b.String()
}

func readerOf(text string, within bounds) *proofReader {
	return &proofReader{from: &reader{text: text}, width: 4, within: within}
}

// brokenBy runs a step and gives what it panics with.
func brokenBy(step func()) (broken any) {
	defer func() { broken = recover() }()
	step()
	return nil
}

func TestEachPartIsHashedInItsOwnWay(t *testing.T) {
	if got := subproofHash(emptyProof{}, 4); got != "" {
		t.Errorf("E: %q", got)
	}
	if got := subproofHash(stubProof{"hash"}, 4); got != "hash" {
		t.Errorf("S: %q", got)
	}
	p := &fullProof{pair: Pair{Key: "k", Val: "v"}, left: stubProof{"left"}, right: emptyProof{}}
	p.addEncoding(4)
	if got := subproofHash(p, 4); got != NodeHash(Node{Key: "k", Val: "v", Left: "left"}, 4) {
		t.Errorf("F: %q", got)
	}
}

func TestEachPartIsReadAsItIsWritten(t *testing.T) {
	if got := readerOf(writtenPart(emptyProof{}), bounds{}).subtree(spot{}); got != (emptyProof{}) {
		t.Errorf("E: %v", got)
	}
	if got := readerOf(writtenPart(stubProof{"hash"}), bounds{"b", "a"}).subtree(spot{}); got != (stubProof{"hash"}) {
		t.Errorf("S: %v", got)
	}
	pair := Pair{Key: "k", Val: "v"}
	got := asFull(readerOf(writtenPart(&fullProof{pair: pair})+"EE", bounds{}).subtree(spot{}))
	if got == nil || got.pair != pair || got.left != (emptyProof{}) || got.right != (emptyProof{}) || got.enc != EncodeNode(Node{Key: "k", Val: "v"}, 4) {
		t.Errorf("F: %v", got)
	}
}

func TestTheReaderPanicsWhereARuleIsBroken(t *testing.T) {
	for _, text := range []string{"", "X", "Shash", "F", "F\x00\x01k", "F\x00\x01k\x00\x01vE", "F\x00\x00\x00\x00EE"} {
		r := readerOf(text, bounds{})
		if broken := brokenBy(func() { r.subtree(spot{}) }); broken != (brokenRule{}) {
			t.Errorf("%q: %v", text, broken)
		}
		if p, ok := accepted(4, "root", bounds{}, text); p != nil || ok {
			t.Errorf("%q is accepted: %v", text, p)
		}
	}
}

// A proof that is read but not that of the root leaves nothing of itself.
func TestNothingIsGivenOfAProofThatIsRefused(t *testing.T) {
	for _, text := range []string{"E", "F\x00\x01k\x00\x01vEE", "F\x00\x01k\x00\x01vEEE"} {
		if p, ok := accepted(4, "root", bounds{}, text); p != nil || ok {
			t.Errorf("%q is accepted: %v", text, p)
		}
	}
}
