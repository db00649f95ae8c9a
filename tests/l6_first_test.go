package tests

import (
	"math"
	"slices"
	"strconv"
	"testing"

	"loop.example/s03048/impl"
)

// What is looked at before an operation is executed.

func wantZeroOutcome(t *testing.T, what string, w int, d impl.Disk, ops []impl.Op) {
	t.Helper()
	if o := impl.Exec(w, d, ops); len(o.Answers) != 0 || o.Disk != (impl.Disk{}) || o.Mode != 0 {
		t.Errorf("%s: %d answers, %s, mode %d", what, len(o.Answers), shownDisk(o.Disk), o.Mode)
	}
}

func TestExecOfNoWidthAndNoDisk(t *testing.T) {
	for _, ops := range [][]impl.Op{nil, {openOp()}, {openOp(), putOp("a", "1"), commitOp()}} {
		for _, w := range noWidths() {
			for _, d := range []impl.Disk{{}, {Cap: 999}, safe(documentCommitRecord(1, ""))} {
				wantZeroOutcome(t, "width "+strconv.Itoa(w), w, d, ops)
			}
		}
		for what, d := range noDisks() {
			for _, w := range storeWidths() {
				wantZeroOutcome(t, what, w, d, ops)
			}
		}
	}
}

func TestExecOfTooManyOperations(t *testing.T) {
	d := impl.Disk{Now: "x", Cap: 999}
	for _, count := range []int{1001, 1002, 2000} {
		wantZeroOutcome(t, strconv.Itoa(count), 8, d, make([]impl.Op, count))
		wantZeroOutcome(t, strconv.Itoa(count), 8, d, slices.Repeat([]impl.Op{openOp()}, count))
	}
	for _, count := range []int{999, 1000} {
		ops := append(slices.Repeat([]impl.Op{openOp()}, count-2), putOp("a", "1"), commitOp())
		codes := append(slices.Repeat([]int{impl.StoreState}, count), 0)[:count]
		codes[0], codes[count-2], codes[count-1] = 0, 0, 0
		o := wantCodes(t, strconv.Itoa(count), 8, d, ops, codes...)
		if o.Answers[count-1].N != 1 || len(o.Disk.Now) != 128 || o.Mode != impl.ModeOpen {
			t.Errorf("%d operations: the last one is not executed", count)
		}
	}
}

func TestExecOfNoOperation(t *testing.T) {
	for _, d := range goodDisks() {
		for _, ops := range [][]impl.Op{nil, {}} {
			o := impl.Exec(8, d, ops)
			if len(o.Answers) != 0 || o.Disk != d || o.Mode != impl.ModeClosed {
				t.Errorf("%s: %d answers, %s, mode %d", shownDisk(d), len(o.Answers), shownDisk(o.Disk), o.Mode)
			}
		}
	}
}

// toMode leads from the beginning to a mode, on a disk with something on it.
func toMode(mode int) []impl.Op {
	made := []impl.Op{openOp(), putOp("a", "1"), commitOp(), putOp("b", "2")}
	switch mode {
	case impl.ModeClosed:
		return append(made, closeOp())
	case impl.ModeOpen:
		return made
	}
	return append(made, fuelOp(1), commitOp())
}

// asIs has one operation of each kind that is as described, by its kind.
func asIs() []impl.Op {
	return []impl.Op{
		impl.OpOpen:     openOp(),
		impl.OpPut:      putOp("k", "v"),
		impl.OpDel:      delOp("k"),
		impl.OpGet:      getOp("a"),
		impl.OpRange:    rangeOp("a", "z"),
		impl.OpCommit:   commitOp(),
		impl.OpCheckout: checkoutOp(1),
		impl.OpVersions: versionsOp(),
		impl.OpProve:    proveOp(1, "a", "z"),
		impl.OpDiff:     diffOp(1, 1),
		impl.OpClose:    closeOp(),
		impl.OpCrash:    crashOp(64, 64),
		impl.OpFuel:     fuelOp(7),
	}
}

// spoiled are operations of a kind with one field that is not named at it, the other fields as they should be.
func spoiled(kind int) []impl.Op {
	var out []impl.Op
	named := namedFields(kind)
	for _, set := range []struct {
		field string
		by    func(*impl.Op)
	}{
		{"Key", func(op *impl.Op) { op.Key = "k" }},
		{"Key", func(op *impl.Op) { op.Key = "\x00" }},
		{"Val", func(op *impl.Op) { op.Val = "v" }},
		{"Val", func(op *impl.Op) { op.Val = "\x00" }},
		{"N", func(op *impl.Op) { op.N = 1 }},
		{"N", func(op *impl.Op) { op.N = -1 }},
		{"N", func(op *impl.Op) { op.N = math.MinInt }},
		{"N", func(op *impl.Op) { op.N = 1 << 32 }},
		{"M", func(op *impl.Op) { op.M = 1 }},
		{"M", func(op *impl.Op) { op.M = -1 }},
		{"M", func(op *impl.Op) { op.M = 1 << 32 }},
		{"Picks", func(op *impl.Op) { op.Picks = []int{0} }},
		{"Picks", func(op *impl.Op) { op.Picks = []int{64, 1} }},
	} {
		if !slices.Contains(named, set.field) {
			op := asIs()[kind]
			set.by(&op)
			out = append(out, op)
		}
	}
	return out
}

// outOfSize are operations of which a field that is named has no size that it may have.
func outOfSize() []impl.Op {
	long, great := mixedText(257), mixedText(2001)
	return []impl.Op{
		putOp("", ""), putOp("", "v"), putOp(long, ""), putOp(long, "v"), putOp("k", great), putOp("", great), putOp(mixedText(256), great),
		delOp(""), delOp(long), delOp(great),
		getOp(""), getOp(long), getOp(great),
		crashOp(make([]int, 20001)...), crashOp(make([]int, 30000)...),
		fuelOp(-2), fuelOp(-3), fuelOp(math.MinInt), fuelOp(-1 << 32),
	}
}

func unknownKinds() []impl.Op {
	var out []impl.Op
	for _, kind := range []int{0, -1, 14, 15, 99, 1000, -13, math.MinInt, math.MaxInt, 1<<32 + 1, 1<<32 + impl.OpCrash} {
		out = append(out, opOf(kind), impl.Op{Kind: kind, Key: "k", N: 1})
	}
	return out
}

func notAsDescribed() []impl.Op {
	out := slices.Concat(outOfSize(), unknownKinds())
	for kind := impl.OpOpen; kind <= impl.OpFuel; kind++ {
		out = append(out, spoiled(kind)...)
	}
	return out
}

// wantNothingDone holds one operation behind others to its code, and to a disk and a mode that it leaves as they were.
func wantNothingDone(t *testing.T, what string, before []impl.Op, op impl.Op, code int) {
	t.Helper()
	d := impl.Disk{Cap: 9999}
	was := impl.Exec(8, d, before)
	o := wantExec(t, what, 8, d, append(slices.Clone(before), op))
	last := o.Answers[len(before)]
	if !sameAnswer(last, impl.Answer{Code: code}) || o.Disk != was.Disk || o.Mode != was.Mode {
		t.Errorf("%s, %s: %s, %s, mode %d, want code %d and nothing else", what, shownOp(op), shownAnswer(last), shownDisk(o.Disk), o.Mode, code)
	}
}

func TestWhatIsNotAsDescribedIsBad(t *testing.T) {
	for _, op := range notAsDescribed() {
		wantNothingDone(t, "at the beginning", nil, op, impl.StoreBad)
		wantNothingDone(t, "closed", toMode(impl.ModeClosed), op, impl.StoreBad)
		wantNothingDone(t, "open", toMode(impl.ModeOpen), op, impl.StoreBad)
	}
	for _, d := range []impl.Op{openOp(), commitOp(), versionsOp(), closeOp()} {
		d.Picks = []int{}
		o := impl.Exec(8, impl.Disk{Cap: 999}, []impl.Op{openOp(), d})
		if o.Answers[1].Code == impl.StoreBad {
			t.Errorf("kind %d: an empty list of picks is the zero value", d.Kind)
		}
	}
}

func TestInADeadProcessAllButACrashIsDead(t *testing.T) {
	dead := toMode(impl.ModeDead)
	if o := impl.Exec(8, impl.Disk{Cap: 9999}, dead); o.Mode != impl.ModeDead || o.Disk.Now == o.Disk.Stable {
		t.Fatalf("mode %d, %s", o.Mode, shownDisk(o.Disk))
	}
	for _, op := range append(notAsDescribed(), asIs()[1:]...) {
		switch {
		case op.Kind != impl.OpCrash:
			wantNothingDone(t, "dead", dead, op, impl.StoreDead)
		case !documentFields(op) || !documentSizes(op):
			wantNothingDone(t, "dead", dead, op, impl.StoreBad)
		default:
			codes := append(make([]int, len(dead)-1), impl.StoreDead, impl.StoreOk, impl.StoreOk)
			o := wantCodes(t, "a crash", 8, impl.Disk{Cap: 9999}, append(slices.Clone(dead), op, openOp()), codes...)
			if o.Mode != impl.ModeOpen {
				t.Errorf("mode %d", o.Mode)
			}
		}
	}
}

func TestEveryOperationHasItsMode(t *testing.T) {
	for kind, op := range asIs() {
		if kind == 0 {
			continue
		}
		for mode, needed := range map[int]bool{impl.ModeClosed: kind == impl.OpOpen, impl.ModeOpen: kind != impl.OpOpen} {
			before := toMode(mode)
			if !needed && kind != impl.OpCrash && kind != impl.OpFuel {
				wantNothingDone(t, "mode "+strconv.Itoa(mode), before, op, impl.StoreState)
				continue
			}
			wantCodes(t, "mode "+strconv.Itoa(mode), 8, impl.Disk{Cap: 9999}, append(before, op), make([]int, len(before)+1)...)
		}
	}
}

func TestSizesOfKeysAndValues(t *testing.T) {
	for _, keySize := range []int{0, 1, 2, 255, 256, 257} {
		key := mixedText(keySize)
		want := impl.StoreOk
		if keySize == 0 || keySize == 257 {
			want = impl.StoreBad
		}
		for _, valSize := range []int{0, 1, 1999, 2000, 2001} {
			val := mixedText(valSize)
			code, got := want, want
			if valSize == 2001 {
				code = impl.StoreBad
			}
			if want == impl.StoreOk && code == impl.StoreBad {
				got = impl.StoreNone
			}
			what := strconv.Itoa(keySize) + " and " + strconv.Itoa(valSize) + " bytes"
			ops := []impl.Op{openOp(), putOp(key, val), getOp(key), delOp(key), getOp(key)}
			again := want
			if want == impl.StoreOk {
				again = impl.StoreNone
			}
			o := wantCodes(t, what, 8, impl.Disk{Cap: 9999}, ops, 0, code, got, want, again)
			if got == impl.StoreOk && o.Answers[2].Val != val {
				t.Errorf("%s: %.40q", what, o.Answers[2].Val)
			}
		}
	}
}

// Bounds have no size that they must have, and may stand in any order.
func TestBoundsOfAnySize(t *testing.T) {
	bounds := []string{"", "\x00", "a", "a\x00", "b", mixedText(256), mixedText(257), mixedText(5000), "\xff"}
	for _, lo := range bounds {
		for _, hi := range bounds {
			ops := []impl.Op{openOp(), putOp("a", "1"), putOp("b", "2"), putOp(mixedText(256), "3"), commitOp(), rangeOp(lo, hi), proveOp(1, lo, hi)}
			wantCodes(t, "bounds", 8, impl.Disk{Cap: 9999}, ops, make([]int, 7)...)
		}
	}
}

func TestCountsOfPicks(t *testing.T) {
	for _, count := range []int{0, 1, 19999, 20000, 20001, 40000} {
		want := impl.StoreOk
		if count > 20000 {
			want = impl.StoreBad
		}
		for _, mode := range []int{impl.ModeClosed, impl.ModeOpen, impl.ModeDead} {
			before := toMode(mode)
			picks := slices.Repeat([]int{64}, count)
			o := wantExec(t, strconv.Itoa(count), 8, impl.Disk{Cap: 9999}, append(before, crashOp(picks...)))
			wantMode := impl.ModeClosed
			if want == impl.StoreBad {
				wantMode = mode
			}
			if got := o.Answers[len(before)].Code; got != want || o.Mode != wantMode {
				t.Errorf("%d picks in mode %d: code %d, mode %d", count, mode, got, o.Mode)
			}
		}
	}
}

func TestNumbersOfFuel(t *testing.T) {
	for _, n := range []int{-1, 0, 1, 2, 1000, 1 << 32, math.MaxInt} {
		for _, mode := range []int{impl.ModeClosed, impl.ModeOpen} {
			before := toMode(mode)
			wantCodes(t, strconv.Itoa(n), 8, impl.Disk{Cap: 9999}, append(before, fuelOp(n)), make([]int, len(before)+1)...)
		}
	}
}
