package tests

import (
	"math/rand"
	"slices"
	"strconv"
	"strings"
	"testing"

	"loop.example/s03048/impl"
)

func emptyPart() *looseProof {
	return &looseProof{letter: 'E'}
}

func stubPart(hash string) *looseProof {
	return &looseProof{letter: 'S', hash: hash}
}

func leafPart(key string, val string) *looseProof {
	return &looseProof{letter: 'F', key: key, val: val, left: emptyPart(), right: emptyPart()}
}

// wantLooseBroken takes the hash of the proof itself as the root, so that no other rule covers the one that is broken.
func wantLooseBroken(t *testing.T, what string, rule string, lo string, hi string, build func(w int) *looseProof) {
	t.Helper()
	for _, w := range treeWidths() {
		p := build(w)
		wantBroken(t, what, rule, w, p.whole(w), lo, hi, p.text())
	}
}

// wantLooseShown is the counterpart: the same but for the broken rule, it is accepted.
func wantLooseShown(t *testing.T, what string, lo string, hi string, build func(w int) *looseProof) {
	t.Helper()
	for _, w := range treeWidths() {
		p := build(w)
		wantShown(t, what, w, p.whole(w), lo, hi, p.text(), p.shownPairs(lo, hi))
	}
}

func TestVerifyAtNoWidth(t *testing.T) {
	whole := leafPart("k", "v")
	for _, w := range noWidths() {
		for _, root := range []string{"", whole.whole(1), whole.whole(32), whole.whole(32) + "x"} {
			for _, proof := range []string{"", "E", "S", "S" + root, whole.text()} {
				wantRefused(t, "no width", w, root, "", "", proof)
				wantRefused(t, "no width", w, root, "b", "a", proof)
			}
		}
	}
}

func TestVerifyOfARootOfAnotherSize(t *testing.T) {
	whole := leafPart("k", "v")
	for _, w := range treeWidths() {
		for size := range 70 {
			root := (whole.whole(32) + zeros(70))[:size]
			if size == w {
				wantShown(t, "the root", w, root, "", "", whole.text(), pairsFrom("k", "v"))
				wantShown(t, "the root", w, root, "b", "a", "S"+root, nil)
				continue
			}
			for _, proof := range []string{"", "E", whole.text(), "S" + root} {
				if size > 0 || proof != "E" {
					wantRefused(t, "a root of "+strconv.Itoa(size)+" bytes", w, root, "", "", proof)
					wantRefused(t, "a root of "+strconv.Itoa(size)+" bytes", w, root, "b", "a", proof)
				}
			}
		}
	}
}

func TestVerifyOfNothingAndSomething(t *testing.T) {
	for _, w := range treeWidths() {
		some := leafPart("k", "v")
		root := some.whole(w)
		for _, b := range [][2]string{{"", ""}, {"a", "z"}, {"k", "k\x00"}, {"x", "z"}, {"b", "a"}, {"a", "a"}} {
			wantShown(t, "E for the empty root", w, "", b[0], b[1], "E", nil)
			wantBroken(t, "E for a root", ruleHash, w, root, b[0], b[1], "E")
			wantRefused(t, "S for the empty root", w, "", b[0], b[1], "S"+root)
			wantRefused(t, "S of zeros for the empty root", w, "", b[0], b[1], "S"+zeros(w))
			wantRefused(t, "S of nothing for the empty root", w, "", b[0], b[1], "S")
			wantRefused(t, "F for the empty root", w, "", b[0], b[1], some.text())
			for _, r := range []string{"", root} {
				wantRefused(t, "the empty text", w, r, b[0], b[1], "")
			}
		}
		wantShown(t, "F for a root", w, root, "", "", some.text(), pairsFrom("k", "v"))
		wantShown(t, "F beside the bounds", w, root, "l", "", some.text(), nil)
		wantBroken(t, "F for another root", ruleHash, w, withByte(root, w-1, root[w-1]^1), "", "", some.text())
		wantBroken(t, "F for another root", ruleHash, w, withByte(root, 0, root[0]^128), "", "", some.text())
		wantShown(t, "S for a root", w, root, "k", "k", "S"+root, nil)
		wantBroken(t, "S for another root", ruleHash, w, withByte(root, w-1, root[w-1]^1), "k", "k", "S"+root)
	}
}

// someProof is a true proof, with all that Verify is given.
type someProof struct {
	w            int
	root, lo, hi string
	text         string
}

func someProofs(t *testing.T) []someProof {
	var out []someProof
	for _, w := range treeWidths() {
		for _, ps := range [][]impl.Pair{nil, numbered(1), numbered(3), numbered(6), pairsFrom("a", "", "b", mixedText(300))} {
			s := impl.Save(poolWith(w), ps)
			if s.Code != impl.TreeOk {
				continue
			}
			for _, b := range [][2]string{{"", ""}, {"10007", "10008"}, {"10010", ""}, {"", "10003"}, {"b", "a"}} {
				text, code := impl.Prove(s.Pool, s.Root, b[0], b[1])
				if code != impl.TreeOk {
					t.Fatalf("code %d", code)
				}
				out = append(out, someProof{w, s.Root, b[0], b[1], text})
			}
		}
	}
	return out
}

func TestVerifyOfATextThatIsCutOrLonger(t *testing.T) {
	for _, p := range someProofs(t) {
		for cut := range len(p.text) {
			wantRefused(t, "cut at "+strconv.Itoa(cut), p.w, p.root, p.lo, p.hi, p.text[:cut])
			if cut > 0 {
				wantVerify(t, "the first "+strconv.Itoa(cut)+" away", p.w, p.root, p.lo, p.hi, p.text[cut:])
			}
		}
		for b := range 256 {
			wantRefused(t, "one byte more", p.w, p.root, p.lo, p.hi, p.text+string([]byte{byte(b)}))
			wantVerify(t, "one byte before", p.w, p.root, p.lo, p.hi, string([]byte{byte(b)})+p.text)
		}
		for _, more := range []string{p.text, "EE", "S" + p.root, zeros(100)} {
			wantRefused(t, "more behind", p.w, p.root, p.lo, p.hi, p.text+more)
		}
	}
}

func TestVerifyOfAByteThatIsChanged(t *testing.T) {
	refused := 0
	for _, p := range someProofs(t) {
		for at := range min(len(p.text), 120) {
			for _, b := range []byte{0, 1, 2, 'E', 'F', 'S', 'N', 255, p.text[at] ^ 1, p.text[at] ^ 128, p.text[at] ^ 32} {
				changed := withByte(p.text, at, b)
				if len(wantVerify(t, "byte "+strconv.Itoa(at), p.w, p.root, p.lo, p.hi, changed)) > 0 {
					refused++
				}
				if changed != p.text && p.w >= 8 {
					wantRefused(t, "byte "+strconv.Itoa(at), p.w, p.root, p.lo, p.hi, changed)
				}
			}
		}
	}
	if refused < 1000 {
		t.Errorf("only %d were refused", refused)
	}
}

// Every byte as the letter, at the top and below an F.
func TestVerifyOfUnknownLetters(t *testing.T) {
	for _, w := range treeWidths() {
		some := leafPart("k", "v")
		top := fullPart("k", "v")
		for b := range 256 {
			letter := string([]byte{byte(b)})
			for _, rest := range []string{"", some.text()[1:], some.whole(w), sizedText("k") + sizedText("v") + "EE"} {
				for _, root := range []string{"", some.whole(w)} {
					wantVerify(t, "a letter", w, root, "", "", letter+rest)
					wantVerify(t, "a letter", w, root, "b", "a", letter+rest)
				}
			}
			for _, text := range []string{top + letter + "E", top + "E" + letter, top + letter + letter} {
				if b == 'E' {
					wantShown(t, "E below", w, some.whole(w), "", "", text, pairsFrom("k", "v"))
				} else {
					wantRefused(t, "a letter below", w, some.whole(w), "", "", text)
				}
			}
		}
	}
}

// All short texts out of the bytes that a proof is made of.
func TestVerifyOfAllShortTexts(t *testing.T) {
	var try func(text string, more int)
	try = func(text string, more int) {
		for _, root := range []string{"", "E", "a"} {
			wantVerify(t, "a short text", 1, root, "", "", text)
			wantVerify(t, "a short text", 1, root, "b", "a", text)
		}
		if more == 0 {
			return
		}
		for _, b := range []string{"E", "S", "F", "\x00", "\x01", "a"} {
			try(text+b, more-1)
		}
	}
	try("", 5)
}

// By hand, at a fork: S where the bounds ask for F, and F where they ask for S.
func TestVerifyOfStubsAndFullOnesWhereTheyDoNotBelong(t *testing.T) {
	keys := forkKeys()
	for _, side := range []string{"left", "right"} {
		beside := func(closed bool) func(w int) *looseProof {
			return func(w int) *looseProof {
				top, low, high := leafPart(keys[1], "2"), leafPart(keys[0], "1"), leafPart(keys[2], "3")
				top.left, top.right = low, high
				if closed && side == "left" {
					top.left = stubPart(low.whole(w))
				}
				if closed && side == "right" {
					top.right = stubPart(high.whole(w))
				}
				return top
			}
		}
		open, shut := beside(false), beside(true)
		wantLooseShown(t, "all", "", "", open)
		wantLooseBroken(t, "S for what can have a key, "+side, ruleStub, "", "", shut)
		below := keys[1][:1]
		if side == "left" {
			wantLooseBroken(t, "lo just below the top", ruleStub, below, "", shut)
			wantLooseShown(t, "lo at the top", keys[1], "", shut)
			wantLooseBroken(t, "lo at the top", ruleFull, keys[1], "", open)
			wantLooseShown(t, "lo above the top", keys[1]+"\x00", "", shut)
			wantLooseBroken(t, "lo above the top", ruleFull, keys[1]+"\x00", "", open)
			wantLooseShown(t, "lo just below the top", below, "", open)
		} else {
			wantLooseBroken(t, "hi just above the top", ruleStub, "", keys[1]+"\x00", shut)
			wantLooseShown(t, "hi at the top", "", keys[1], shut)
			wantLooseBroken(t, "hi at the top", ruleFull, "", keys[1], open)
			wantLooseShown(t, "hi below the top", "", below, shut)
			wantLooseBroken(t, "hi below the top", ruleFull, "", below, open)
			wantLooseShown(t, "hi just above the top", "", keys[1]+"\x00", open)
		}
		wantLooseBroken(t, "nothing between the bounds", ruleFull, "b", "a", func(w int) *looseProof { return leafPart("k", "") })
		wantLooseBroken(t, "something between the bounds", ruleStub, "a", "b", func(w int) *looseProof { return stubPart(leafPart("k", "").whole(w)) })
	}
}

// Every part of a true proof in turn: closed if it is an F, left away, or opened if it is an S.
func TestVerifyOfPartsThatAreClosedOrOpened(t *testing.T) {
	ps := numbered(12)
	for _, w := range treeWidths() {
		for _, b := range [][2]string{{"", ""}, {ps[3].Key, ps[7].Key}, {ps[5].Key, ""}, {"", ps[5].Key}, {ps[6].Key, ps[6].Key + "\x00"}, {"10001", "10002"}} {
			f := forgedFrom(ps)
			_, root := f.write(w)
			count := len(cutDown(f, b[0], b[1], w).parts())
			for at := range count {
				p := cutDown(f, b[0], b[1], w)
				part := p.parts()[at]
				switch part.letter {
				case 'F':
					*part = *stubPart(part.whole(w))
					wantBroken(t, "part "+strconv.Itoa(at)+" closed", ruleStub, w, root, b[0], b[1], p.text())
				case 'S':
					*part = *cutDown(hashed(f, part.hash, w), "", "", w)
					wantBroken(t, "part "+strconv.Itoa(at)+" opened", ruleFull, w, root, b[0], b[1], p.text())
				case 'E':
					*part = *stubPart("")
					wantVerify(t, "part "+strconv.Itoa(at)+", an empty S", w, root, b[0], b[1], p.text())
				}
				p = cutDown(f, b[0], b[1], w)
				*p.parts()[at] = *emptyPart()
				wantVerify(t, "part "+strconv.Itoa(at)+" left away", w, root, b[0], b[1], p.text())
				wantVerify(t, "part "+strconv.Itoa(at)+" left away, with the hash of the rest", w, p.whole(w), b[0], b[1], p.text())
			}
		}
	}
}

// hashed is the subtree with a hash.
func hashed(f *forged, hash string, w int) *forged {
	for _, n := range f.nodes() {
		if _, own := n.write(w); own == hash {
			return n
		}
	}
	return nil
}

// What an S says is its hash, whatever hangs below.
func TestVerifyOfStubsThatHideAnything(t *testing.T) {
	keys := forkKeys()
	for _, w := range treeWidths() {
		for _, hash := range []string{zeros(w), strings.Repeat("\xff", w), strings.Repeat("E", w), mixedText(w)} {
			top := leafPart(keys[1], "2")
			top.left = stubPart(hash)
			wantShown(t, "an S that hides anything", w, top.whole(w), keys[1], "", top.text(), pairsFrom(keys[1], "2"))
			wantShown(t, "the whole as an S", w, hash, "b", "a", "S"+hash, nil)
			for size := range w {
				short := leafPart(keys[1], "2")
				short.right = stubPart(hash[:size])
				wantRefused(t, "a short S", w, short.whole(w), "", keys[1], short.text())
				wantRefused(t, "a short S", w, hash[:size], "b", "a", "S"+hash[:size])
				wantRefused(t, "a short S for the root", w, hash, "b", "a", "S"+hash[:size])
			}
			wantRefused(t, "a long S", w, hash, "b", "a", "S"+hash+"x")
		}
	}
}

func TestVerifyOfTooManyFull(t *testing.T) {
	for _, count := range []int{499, 500, 501, 502} {
		for what, ps := range map[string][]impl.Pair{"a tree": numbered(count), "to the right": deepLine(count, true), "to the left": deepLine(count, false)} {
			f := forgedFrom(ps)
			what = strconv.Itoa(count) + " F, " + what
			for _, w := range []int{1, 8, 32} {
				p := cutDown(f, "", "", w)
				if count <= 500 {
					wantShown(t, what, w, p.whole(w), "", "", p.text(), ps)
				} else {
					wantBroken(t, what, ruleMany, w, p.whole(w), "", "", p.text())
				}
			}
		}
	}
	// Those count, too, whose keys are not within the bounds, and S and E do not count.
	ps := deepLine(501, true)
	for _, from := range []int{0, 1, 250, 499, 500} {
		p := cutDown(forgedFrom(ps), ps[from].Key, "", 8)
		wantBroken(t, "from "+strconv.Itoa(from), ruleMany, 8, p.whole(8), ps[from].Key, "", p.text())
		p = cutDown(forgedFrom(ps), "", ps[from].Key, 8)
		if from == 500 {
			wantBroken(t, "to the last", ruleMany, 8, p.whole(8), "", ps[from].Key, p.text())
		} else {
			wantShown(t, "to "+strconv.Itoa(from), 8, p.whole(8), "", ps[from].Key, p.text(), ps[:from])
		}
	}
}

// A text may be longer and deeper than any proof.
func TestVerifyOfGreatTexts(t *testing.T) {
	const size = 3000000
	for _, part := range []string{"F", "E", "S", "\x00", fullPart("a", ""), fullPart("a", "") + "E", fullPart(mixedText(256), mixedText(2000))} {
		for _, root := range []string{"", "12345678"} {
			wantRefused(t, "a great text", 8, root, "", "", strings.Repeat(part, size/len(part)))
		}
	}
	// Keys that sink on and on to the right, in order.
	var deep strings.Builder
	for _, p := range deepLine(999, true) {
		deep.WriteString(fullPart(p.Key, "") + "E")
	}
	wantRefused(t, "a deep text", 8, "12345678", "", "", deep.String()+"E")
}

func TestVerifyOfSizes(t *testing.T) {
	for _, size := range []int{1, 2, 255, 256} {
		wantLooseShown(t, "a key of "+strconv.Itoa(size), "", "", func(w int) *looseProof { return leafPart(mixedText(size), "v") })
	}
	for _, size := range []int{0, 257, 258, 512, 65535} {
		wantLooseBroken(t, "a key of "+strconv.Itoa(size), ruleKey, "", "", func(w int) *looseProof { return leafPart(mixedText(size), "v") })
	}
	for _, size := range []int{0, 1, 255, 256, 1999, 2000} {
		wantLooseShown(t, "a value of "+strconv.Itoa(size), "", "", func(w int) *looseProof { return leafPart("k", mixedText(size)) })
	}
	for _, size := range []int{2001, 2002, 4096, 65535} {
		wantLooseBroken(t, "a value of "+strconv.Itoa(size), ruleVal, "", "", func(w int) *looseProof { return leafPart("k", mixedText(size)) })
	}
	// Below an F, too, and beside the bounds.
	for _, c := range []struct {
		rule     string
		key, val string
	}{{ruleKey, lowKey("y", 257), ""}, {ruleVal, lowKey("y", 9), mixedText(2001)}, {"", lowKey("y", 256), mixedText(2000)}} {
		for _, lo := range []string{"", "z"} {
			below := func(w int) *looseProof {
				top := leafPart(highKey("x"), "")
				top.right = leafPart(c.key, c.val)
				return top
			}
			if c.rule == "" {
				wantLooseShown(t, "the greatest sizes below", lo, "", below)
			} else {
				wantLooseBroken(t, "a size below", c.rule, lo, "", below)
			}
		}
	}
}

// What is no node has no hash, neither an empty one nor that of the letter alone.
func TestVerifyOfSizesForTheHashOfNoEncoding(t *testing.T) {
	for _, w := range treeWidths() {
		for _, bad := range []*looseProof{leafPart("", "v"), leafPart(mixedText(257), "v"), leafPart("k", mixedText(2001))} {
			for _, root := range []string{"", zeros(w), encHash("", w), librarySum("")[:w]} {
				wantRefused(t, "the top", w, root, "", "", bad.text())
				top := leafPart(highKey("j"), "")
				enc := documentNode(impl.Node{Key: top.key, Right: root})
				top.right = bad
				wantRefused(t, "below the top", w, encHash(enc, w), "", "", top.text())
			}
		}
	}
}

// highKey has a hash that few keys are above, lowKey one that most are above.
func highKey(begin string) string {
	for i := 0; ; i++ {
		if key := begin + strconv.Itoa(i); librarySum(key)[0] >= 0xfd {
			return key
		}
	}
}

func lowKey(begin string, size int) string {
	for i := 0; ; i++ {
		key := begin + strconv.Itoa(i)
		key += strings.Repeat("k", size-len(key))
		if librarySum(key)[0] < 0x80 {
			return key
		}
	}
}

// Four F in a line with all sides, and for the last one every place among the keys.
func TestVerifyOfKeysOnAWrongSide(t *testing.T) {
	counts := map[string]int{}
	for sides := range 8 {
		for place := range 5 {
			f, keys := zigzag(sides, place)
			for _, w := range treeWidths() {
				p := cutDown(f, "", "", w)
				broken := wantVerify(t, "sides "+strconv.Itoa(sides)+", keys "+strings.Join(keys, " "), w, p.whole(w), "", "", p.text())
				counts[strings.Join(broken, ", ")]++
			}
		}
	}
	if counts[""] != 32 || counts[ruleSide] != 96 {
		t.Errorf("%v", counts)
	}
}

// By hand: wrong for the F right above, and right for that one but wrong for one farther up.
func TestVerifyOfAKeyOnAWrongSideByHand(t *testing.T) {
	lined := func(f *forged) func(w int) *looseProof {
		return func(w int) *looseProof { return cutDown(f, "", "", w) }
	}
	keys := sinking(12, 6, 18)
	wantLooseBroken(t, "left of the one right above", ruleSide, "", "", lined(&forged{key: keys[0], left: &forged{key: keys[2]}}))
	wantLooseBroken(t, "right of the one right above", ruleSide, "", "", lined(&forged{key: keys[0], right: &forged{key: keys[1]}}))
	wantLooseShown(t, "both where they belong", "", "", lined(&forged{key: keys[0], left: &forged{key: keys[1]}, right: &forged{key: keys[2]}}))
	keys = sinking(12, 6, 13)
	wantLooseBroken(t, "left, right", ruleSide, "", "", lined(&forged{key: keys[0], left: &forged{key: keys[1], right: &forged{key: keys[2]}}}))
	keys = sinking(12, 18, 11)
	wantLooseBroken(t, "right, left", ruleSide, "", "", lined(&forged{key: keys[0], right: &forged{key: keys[1], left: &forged{key: keys[2]}}}))
	keys = sinking(12, 6, 3, 4, 7)
	wantLooseBroken(t, "one in the middle", ruleSide, "", "", lined(&forged{key: keys[0], left: &forged{key: keys[1],
		left: &forged{key: keys[2], right: &forged{key: keys[3], right: &forged{key: keys[4]}}}}}))
}

func TestVerifyOfAKeyThatIsNotLessHigh(t *testing.T) {
	keys := sinking(5, 12, 3, 7)
	lined := func(f *forged) func(w int) *looseProof {
		return func(w int) *looseProof { return cutDown(f, "", "", w) }
	}
	wantLooseBroken(t, "on the right", ruleHeight, "", "", lined(&forged{key: keys[3], right: &forged{key: keys[1]}}))
	wantLooseBroken(t, "on the left", ruleHeight, "", "", lined(&forged{key: keys[3], left: &forged{key: keys[0]}}))
	wantLooseBroken(t, "less high than the top alone", ruleHeight, "", "", lined(&forged{key: keys[0], right: &forged{key: keys[3], right: &forged{key: keys[1]}}}))
	wantLooseShown(t, "in order", "", "", lined(&forged{key: keys[0], right: &forged{key: keys[1], left: &forged{key: keys[3]}}}))
	// A key is no higher than itself, and on no side of itself.
	for _, left := range []bool{true, false} {
		f := &forged{key: keys[0], right: &forged{key: keys[0]}}
		if left {
			f.left, f.right = f.right, nil
		}
		p := cutDown(f, "", "", 8)
		wantRefused(t, "a key below itself", 8, p.whole(8), "", "", p.text())
	}
}

// Proofs of trees with faults, with parts that are closed, opened and left away, mostly with their own hash as the root.
func TestVerifyOfSpoiltProofs(t *testing.T) {
	alone := map[string]int{}
	for seed := range 12000 {
		r := rand.New(rand.NewSource(int64(seed)))
		w := treeWidths()[r.Intn(4)]
		f := forgedFrom(mixedMap(r, 12))
		lo, hi := mixedBound(r), mixedBound(r)
		for range r.Intn(3) {
			spoil(r, f.nodes())
		}
		p := cutDown(f, lo, hi, w)
		for range r.Intn(3) {
			spoilPart(r, p.parts(), w)
		}
		if r.Intn(6) == 0 {
			lo, hi = mixedBound(r), mixedBound(r)
		}
		root := p.whole(w)
		if r.Intn(8) == 0 {
			root = encHash(strconv.Itoa(seed), w)
		}
		broken := wantVerify(t, "seed "+strconv.Itoa(seed), w, root, lo, hi, p.text())
		if len(broken) < 2 {
			alone[strings.Join(broken, ", ")]++
		}
	}
	for _, rule := range []string{"", ruleStub, ruleFull, ruleKey, ruleVal, ruleSide, ruleHeight, ruleHash} {
		if alone[rule] < 20 {
			t.Errorf("too few that break one rule: %v", alone)
			break
		}
	}
}

func spoilPart(r *rand.Rand, parts []*looseProof, w int) {
	part := parts[r.Intn(len(parts))]
	switch r.Intn(6) {
	case 0:
		part.val = mixedText(1999 + r.Intn(4))
	case 1:
		part.key = mixedText(256 * r.Intn(3) / 2)
	case 2:
		*part = *emptyPart()
	case 3:
		if hash := part.whole(w); hash != "" {
			*part = *stubPart(hash)
		}
	case 4:
		*part = *leafPart(mixedKey(r), mixedVal(r))
	case 5:
		*part = *stubPart(mixedText(w))
	}
}

// Texts of any bytes, for any root, at any number as the width: nothing panics, and the document's answer is given.
func TestVerifyOfAnyText(t *testing.T) {
	r := rand.New(rand.NewSource(1))
	letters := []byte("EEESSFFF\x00\x00\x01\x01ab\xff")
	for range 60000 {
		text := make([]byte, r.Intn(40))
		for i := range text {
			text[i] = letters[r.Intn(len(letters))]
		}
		w := r.Intn(4)
		root := mixedText(w)
		if p, _, ok := parsedProof(string(text), w); ok && w > 0 {
			root = p.whole(w)
		}
		lo, hi := mixedBound(r), mixedBound(r)
		wantVerify(t, "any text", w, root, lo, hi, string(text))
	}
}

// The root and the bounds alone decide: what was proven for others is refused or shows what is within these.
func TestVerifyOfAProofForOtherBounds(t *testing.T) {
	ps := numbered(8)
	for _, w := range []int{8, 32} {
		s := impl.Save(poolWith(w), ps)
		other := impl.Root(with(ps, ps[4].Key, "other"), w)
		bounds := boundsFor(ps)
		proofs := map[string]bool{}
		for _, lo := range bounds {
			for _, hi := range bounds {
				text, _ := impl.Prove(s.Pool, s.Root, lo, hi)
				proofs[text] = true
			}
		}
		for text := range proofs {
			wantRefused(t, "another map", w, other, "", "", text)
			for i, lo := range bounds {
				hi := bounds[(i*7+3)%len(bounds)]
				wantVerify(t, "other bounds", w, s.Root, lo, hi, text)
				mine, _ := impl.Prove(s.Pool, s.Root, lo, hi)
				if got, ok := impl.Verify(w, s.Root, lo, hi, text); ok && (text != mine || !slices.Equal(got, pairsBetween(ps, lo, hi))) {
					t.Errorf("from %q to %q: %q is accepted beside %q", lo, hi, text, mine)
				}
			}
		}
	}
}
