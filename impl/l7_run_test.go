package impl

import "testing"

// No operation has more than one of these, so that no script shows their order.
func TestTheOrderOfWhatAnAnswerShows(t *testing.T) {
	a := Answer{Code: 7, N: -12, Val: "v", Pairs: []Pair{{"a", "b"}, {"c", ""}}, Vals: []string{"", "x"},
		Changes: []Change{{Key: "k", Has: true, New: "n"}, {Key: "l", Had: true, Old: "o"}}, A: "A", B: "B"}
	if got := answerLine(a); got != "7 -12 76 61=62 63= - 78 6b:->=6e 6c:=6f>- !41/42" {
		t.Errorf("%q", got)
	}
}

func TestWhatAnAnswerLeavesOut(t *testing.T) {
	for _, c := range []struct {
		answer Answer
		want   string
	}{
		{Answer{}, "0 0"},
		{Answer{B: "B"}, "0 0"},
		{Answer{A: "A"}, "0 0 !41/"},
		{Answer{Changes: []Change{{Key: "k", Old: "o", New: "n"}}}, "0 0 6b:->-"},
		{Answer{Changes: []Change{{Had: true, Has: true}}}, "0 0 :=>="},
		{Answer{Pairs: []Pair{{}}}, "0 0 ="},
		{Answer{Val: "\x00\x0f\xf0\xff"}, "0 0 000ff0ff"},
	} {
		if got := answerLine(c.answer); got != c.want {
			t.Errorf("%q, want %q", got, c.want)
		}
	}
}

// Each kind has a place for every part of its shape, and its operation has no part that the shape lacks.
func TestEveryKindReadsItsShape(t *testing.T) {
	for place, kinds := range lineKinds() {
		for word, kind := range kinds {
			var texts []string
			if kind.shape != anyNumbers {
				for range kind.shape {
					texts = append(texts, "1")
				}
			}
			p, ok := kind.read(texts)
			if !ok || len(p.words)+len(p.numbers) != len(texts) {
				t.Fatalf("%s of line %d: %v, %v", word, place, p, ok)
			}
			var s Script
			kind.enter(&s, p)
			if entered := s.Width + s.Cap + len(s.Ops); entered != 1 {
				t.Errorf("%s of line %d enters %d things", word, place, entered)
			}
		}
	}
}
