package tests

import (
	"slices"
	"strings"
	"testing"

	"loop.example/s03048/impl"
)

func proofCalls(root string, lo string, hi string, proof string) []memoryCase {
	return []memoryCase{
		{"Prove", func(p impl.Pool) []string { got, _ := impl.Prove(p, root, lo, hi); return []string{got} }},
		{"Prove of nothing between", func(p impl.Pool) []string { got, _ := impl.Prove(p, root, hi, lo); return []string{got} }},
		{"Prove of nothing", func(p impl.Pool) []string { got, _ := impl.Prove(p, "", lo, hi); return []string{got} }},
		{"Verify", func(p impl.Pool) []string { got, _ := impl.Verify(p.W, root, lo, hi, proof); return pairTexts(got) }},
	}
}

func TestProofsAnswerNewMemory(t *testing.T) {
	s := impl.Save(poolWith(8, "junk"), numbered(9))
	root, lo, hi := strings.Clone(s.Root), strings.Clone("10007"), strings.Clone("10050")
	proof, _ := impl.Prove(s.Pool, root, lo, hi)
	for _, c := range proofCalls(root, lo, hi, proof) {
		p, whole := guarded(s.Pool)
		one := c.call(p)
		two := c.call(p)
		if len(one) == 0 || one[0] == "" || !slices.Equal(one, two) {
			t.Errorf("%s: %q, then %q", c.what, one, two)
		}
		wantNewMemory(t, c.what, one, p.Encs, []string{root, lo, hi, proof})
		wantNewMemory(t, c.what+", again", two, one)
		if !slices.Equal(whole[:len(p.Encs)], s.Pool.Encs) || whole[len(p.Encs)] != "behind the pool" || whole[cap(p.Encs)-1] != "behind the pool" {
			t.Errorf("%s: the pool was written into", c.what)
		}
	}
}

func TestExtractAnswersNewMemory(t *testing.T) {
	for _, w := range []int{1, 2} {
		ps := numbered(5)
		one := cutDown(forgedFrom(ps), "", "", w)
		two := cutDown(forgedFrom(otherVal(ps, topOf(ps), w)), "", "", w)
		given := []string{one.text(), two.text(), one.whole(w)}
		a, b, ok := impl.Extract(w, given[2], "", "", given[0], given[1])
		c, d, again := impl.Extract(w, given[2], "", "", given[0], given[1])
		if !ok || !again || a != c || b != d {
			t.Fatalf("%q %q %t, then %q %q %t", a, b, ok, c, d, again)
		}
		wantNewMemory(t, "Extract", []string{a, b}, given)
		wantNewMemory(t, "Extract, again", []string{c, d}, []string{a, b})
		wantNewMemory(t, "the two texts", []string{a}, []string{b})
	}
}

// The list of an answer is its own: what is written into it is seen in no other answer.
func TestVerifyAnswersANewList(t *testing.T) {
	p := cutDown(forgedFrom(numbered(5)), "", "", 8)
	one, _ := impl.Verify(8, p.whole(8), "", "", p.text())
	one[0].Val = "changed"
	one = append(one[:1], impl.Pair{Key: "more"})
	two, _ := impl.Verify(8, p.whole(8), "", "", p.text())
	if !slices.Equal(two, numbered(5)) || len(one) != 2 {
		t.Errorf("%q", two)
	}
}
