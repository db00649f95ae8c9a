package tests

import (
	"slices"
	"strings"
	"testing"

	"loop.example/s03048/impl"
)

// guarded is a pool whose list has room behind it, and texts that are in no other list.
func guarded(p impl.Pool) (impl.Pool, []string) {
	room := make([]string, 0, len(p.Encs)+50)
	for _, enc := range p.Encs {
		room = append(room, strings.Clone(enc))
	}
	whole := room[:cap(room)]
	for i := len(room); i < len(whole); i++ {
		whole[i] = "behind the pool"
	}
	return impl.Pool{W: p.W, Encs: room}, whole
}

func savedTexts(s impl.Saved) []string {
	return append(slices.Clone(s.Pool.Encs), s.Root, s.A, s.B)
}

func pairTexts(ps []impl.Pair) []string {
	var out []string
	for _, p := range ps {
		out = append(out, p.Key, p.Val)
	}
	return out
}

func changeTexts(cs []impl.Change) []string {
	var out []string
	for _, c := range cs {
		out = append(out, c.Key, c.Old, c.New)
	}
	return out
}

func wantNewMemory(t *testing.T, what string, answer []string, given ...[]string) {
	t.Helper()
	for _, list := range given {
		for _, g := range list {
			for _, a := range answer {
				if sharesMemory(a, g) {
					t.Fatalf("%s: %.40q is a piece of %.40q", what, a, g)
				}
			}
		}
	}
}

// memoryCase is one call with all the texts that it was given and that it answered.
type memoryCase struct {
	what string
	call func(p impl.Pool) []string
}

func memoryCases(root string, other string, ps []impl.Pair) []memoryCase {
	key, val := strings.Clone("10003"), strings.Clone("a value of some size")
	return []memoryCase{
		{"Save", func(p impl.Pool) []string { return savedTexts(impl.Save(p, ps)) }},
		{"Save of what is there", func(p impl.Pool) []string { return savedTexts(impl.Save(p, numbered(9))) }},
		{"Save of nothing", func(p impl.Pool) []string { return savedTexts(impl.Save(p, nil)) }},
		{"Load", func(p impl.Pool) []string { got, _ := impl.Load(p, root); return pairTexts(got) }},
		{"Range", func(p impl.Pool) []string { got, _ := impl.Range(p, root, "10007", "10050"); return pairTexts(got) }},
		{"Put", func(p impl.Pool) []string { return savedTexts(impl.Put(p, root, key, val)) }},
		{"Del", func(p impl.Pool) []string { return savedTexts(impl.Del(p, root, "10007")) }},
		{"Del of nothing", func(p impl.Pool) []string { return savedTexts(impl.Del(p, root, key)) }},
		{"Diff", func(p impl.Pool) []string { got, _ := impl.Diff(p, root, other); return changeTexts(got) }},
	}
}

func TestTreesAnswerNewMemory(t *testing.T) {
	const w = 8
	first := impl.Save(poolWith(w, "junk"), numbered(9))
	second := impl.Put(first.Pool, first.Root, "10007", "another value")
	ps := with(numbered(9), "10001", "a value of some size")
	before := slices.Clone(ps)
	for _, c := range memoryCases(first.Root, second.Root, ps) {
		p, whole := guarded(second.Pool)
		one := c.call(p)
		two := c.call(p)
		if len(one) == 0 || !slices.Equal(one, two) {
			t.Errorf("%s: %d texts, then %d", c.what, len(one), len(two))
		}
		wantNewMemory(t, c.what, one, p.Encs, []string{first.Root, second.Root}, pairTexts(ps))
		wantNewMemory(t, c.what+", again", two, one)
		if !slices.Equal(whole[:len(p.Encs)], second.Pool.Encs) || whole[len(p.Encs)] != "behind the pool" || whole[cap(p.Encs)-1] != "behind the pool" {
			t.Errorf("%s: the pool was written into", c.what)
		}
	}
	if !slices.Equal(ps, before) {
		t.Error("the pairs were written into")
	}
}

func TestPutKeepsNothingOfItsArguments(t *testing.T) {
	key, val := strings.Clone("a key of some size"), strings.Clone("a value of some size")
	s := impl.Put(poolWith(8), "", key, val)
	wantNewMemory(t, "Put", savedTexts(s), []string{key, val})
	ps := pairsFrom(strings.Clone("key"), strings.Clone("value"))
	wantNewMemory(t, "Save", savedTexts(impl.Save(poolWith(8), ps)), pairTexts(ps))
}

func TestCollisionsAnswerNewMemory(t *testing.T) {
	for _, w := range []int{1, 2} {
		ps := numbered(3)
		encs, _ := documentTree(ps, w)
		p, whole := guarded(poolWith(w, "x", junkLike(encs[2], w)))
		s, again := impl.Save(p, ps), impl.Save(p, ps)
		if s.Code != impl.TreeCollision {
			t.Fatalf("code %d", s.Code)
		}
		wantNewMemory(t, "a collision", savedTexts(s), p.Encs, pairTexts(ps), savedTexts(again))
		s.Pool.Encs[0] = "changed"
		s.Pool.Encs = append(s.Pool.Encs, "more")
		if p.Encs[0] != "x" || again.Pool.Encs[0] != "x" || whole[2] != "behind the pool" {
			t.Error("the pool of the answer is that of the argument")
		}
	}
}

func TestSaveWithNothingToAddAnswersANewList(t *testing.T) {
	first := impl.Save(poolWith(8), numbered(4))
	for _, s := range []impl.Saved{impl.Save(first.Pool, numbered(4)), impl.Save(first.Pool, nil), impl.Del(first.Pool, first.Root, "none")} {
		was := first.Pool.Encs[0]
		s.Pool.Encs[0] = "changed"
		if first.Pool.Encs[0] != was {
			t.Error("the list of the answer is that of the argument")
		}
	}
}

func TestClashAnswersNewMemory(t *testing.T) {
	ps := numbered(5)
	qs := otherVal(ps, topOf(ps), 1)
	one, two := slices.Clone(ps), slices.Clone(qs)
	a, b, ok := impl.Clash(ps, qs, 1)
	if !ok {
		t.Fatal("no clash")
	}
	wantNewMemory(t, "Clash", []string{a, b}, pairTexts(ps), pairTexts(qs))
	if !slices.Equal(one, ps) || !slices.Equal(two, qs) {
		t.Error("the pairs were written into")
	}
}
