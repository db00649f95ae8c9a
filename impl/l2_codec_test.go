package impl

import (
	"strings"
	"testing"
)

func TestReaderKeepsItsFault(t *testing.T) {
	r := &reader{text: "abcdef"}
	if read(r, plain{7}) != "" || !r.fault {
		t.Error("more is read than there is")
	}
	if read(r, plain{1}) != "" || read(r, number{size: 1}) != 0 || r.next(0) != "" || !r.fault {
		t.Error("something is read after the fault")
	}
	if r.at != 0 {
		t.Errorf("the place moves to %d", r.at)
	}
}

func TestReaderAtTheEnd(t *testing.T) {
	r := &reader{text: "ab"}
	if read(r, plain{2}) != "ab" || read(r, plain{0}) != "" || r.fault {
		t.Error("nothing is more than there is")
	}
	if read(r, plain{1}) != "" || !r.fault {
		t.Error("a byte behind the end")
	}
}

// halfForm fails after it has read something.
type halfForm struct{}

func (halfForm) put(b *strings.Builder, v string) {
	b.WriteString(v)
}

func (halfForm) take(r *reader) string {
	v := r.next(1)
	r.fail()
	return v
}

func TestReadGivesNothingBesideAFault(t *testing.T) {
	if got := read(&reader{text: "ab"}, halfForm{}); got != "" {
		t.Errorf("%q", got)
	}
	if got, ok := readWhole("a", halfForm{}); got != "" || ok {
		t.Errorf("%q %t", got, ok)
	}
	if got, ok := readWhole("ab", plain{1}); got != "" || ok {
		t.Errorf("with a byte behind it: %q %t", got, ok)
	}
}

func TestNumbersInBothOrders(t *testing.T) {
	known := []struct {
		as   number
		v    int
		text string
	}{
		{number{size: 1}, 0, "\x00"},
		{number{size: 1}, 255, "\xff"},
		{number{size: 2}, 0x1234, "\x12\x34"},
		{number{size: 2, lowFirst: true}, 0x1234, "\x34\x12"},
		{number{size: 4}, 0x12345678, "\x12\x34\x56\x78"},
		{number{size: 4, lowFirst: true}, 0x12345678, "\x78\x56\x34\x12"},
		{number{size: 4, lowFirst: true}, 0xfffffffe, "\xfe\xff\xff\xff"},
	}
	for _, k := range known {
		if got := written(k.as, k.v); got != k.text {
			t.Errorf("%d is written %x, want %x", k.v, got, k.text)
		}
		if got, ok := readWhole(k.text, k.as); got != k.v || !ok {
			t.Errorf("%x is read as %d %t, want %d", k.text, got, ok, k.v)
		}
	}
}

func TestMissingFillsWholeSectors(t *testing.T) {
	for _, k := range [][2]int{{0, 0}, {1, 62}, {62, 1}, {63, 0}, {64, 62}, {126, 0}, {127, 62}} {
		if got := missing(k[0]); got != k[1] {
			t.Errorf("%d bytes miss %d, want %d", k[0], got, k[1])
		}
	}
}

func TestEncodingHashHasTheLetter(t *testing.T) {
	for _, enc := range []string{"", "a", mixedText(63), mixedText(64), mixedText(4000)} {
		if encodingHash(enc) != hashOf("N"+enc) {
			t.Errorf("an encoding of %d bytes", len(enc))
		}
	}
}
