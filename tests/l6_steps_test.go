package tests

import (
	"slices"
	"strconv"
	"testing"

	"loop.example/s03048/impl"
)

// wantDeaths runs one operation behind others with 0, 1, 2, .. steps left: stages are the disk before each of its steps, and behind the last.
func wantDeaths(t *testing.T, what string, w int, d impl.Disk, before []impl.Op, op impl.Op, stages []impl.Disk) {
	t.Helper()
	steps := len(stages) - 1
	for fuel := range steps + 3 {
		named := what + " with " + strconv.Itoa(fuel) + " steps"
		ops := append(slices.Clone(before), fuelOp(fuel), op, versionsOp(), putOp("later", "1"), commitOp())
		o := wantExec(t, named, w, d, ops)
		answers := o.Answers[len(before)+1:]
		if fuel < steps {
			wantLast(t, named, o, coded(impl.StoreDead), coded(impl.StoreDead), coded(impl.StoreDead), coded(impl.StoreDead))
			if o.Disk != stages[fuel] || o.Mode != impl.ModeDead {
				t.Errorf("%s: %s, mode %d, want %s", named, shownDisk(o.Disk), o.Mode, shownDisk(stages[fuel]))
			}
			continue
		}
		if answers[0].Code != impl.StoreOk || answers[1].Code != impl.StoreOk || answers[2].Code != impl.StoreOk {
			t.Errorf("%s: %v", named, answers)
		}
		// What is left is that for the next commit, which has four steps.
		if fuel-steps < 4 && answers[3].Code != impl.StoreDead {
			t.Errorf("%s: the next commit has code %d", named, answers[3].Code)
		}
		o = wantExec(t, named, w, d, ops[:len(before)+2])
		if o.Disk != stages[steps] || o.Mode != impl.ModeOpen {
			t.Errorf("%s: %s, mode %d, want %s", named, shownDisk(o.Disk), o.Mode, shownDisk(stages[steps]))
		}
	}
}

// commitStages are the disk before each step of a commit, and behind the last.
func commitStages(d impl.Disk, nodes string, commit string) []impl.Disk {
	stages := []impl.Disk{d}
	for _, text := range []string{nodes, commit} {
		if text == "" {
			continue
		}
		d.Now += text
		stages = append(stages, d)
		d.Stable = d.Now
		stages = append(stages, d)
	}
	return stages
}

func TestDeathInTheFirstCommit(t *testing.T) {
	empty := impl.Disk{Cap: 99999}
	for _, w := range []int{8, 32} {
		for what, ps := range map[string][]impl.Pair{"one": numbered(1), "three": numbered(3), "many sectors": pairsFrom("a", mixedText(2000), "b", mixedText(100))} {
			encs, root := documentTree(ps, w)
			before := append([]impl.Op{openOp()}, putOps(ps)...)
			wantDeaths(t, what, w, empty, before, commitOp(), commitStages(empty, textOfNodes(encs), documentCommitRecord(1, root)))
		}
		wantDeaths(t, "nothing", w, empty, []impl.Op{openOp()}, commitOp(), commitStages(empty, "", documentCommitRecord(1, "")))
	}
}

func TestDeathInALaterCommit(t *testing.T) {
	const w = 8
	first, root := documentTree(numbered(1), w)
	log, _ := logOf([]commitOf{{first, root}})
	d := impl.Disk{Stable: log, Now: log, Cap: 99999}
	made := append([]impl.Op{openOp()}, append(putOps(numbered(1)), commitOp())...)
	wantDeaths(t, "nothing new", w, impl.Disk{Cap: 99999}, made, commitOp(), commitStages(d, "", documentCommitRecord(2, root)))
	wantDeaths(t, "nothing at all", w, impl.Disk{Cap: 99999}, append(made, delOp("10000")), commitOp(), commitStages(d, "", documentCommitRecord(2, "")))
	s := documentSave(poolWith(w, first...), with(numbered(1), "a", "1"))
	nodes := textOfNodes(s.Pool.Encs[1:])
	stages := commitStages(d, nodes, documentCommitRecord(2, s.Root))
	wantDeaths(t, "a key more", w, impl.Disk{Cap: 99999}, append(made, putOp("a", "1")), commitOp(), stages)
	wantDeaths(t, "a key more, opened", w, d, []impl.Op{openOp(), putOp("a", "1")}, commitOp(), stages)
	// A disk of which not all is safe becomes so with the first sync.
	open := impl.Disk{Stable: log[:70], Now: log, Cap: 99999}
	wantDeaths(t, "not safe", w, open, []impl.Op{openOp(), putOp("a", "1")}, commitOp(), commitStages(open, nodes, documentCommitRecord(2, s.Root)))
	wantDeaths(t, "not safe, nothing new", w, open, []impl.Op{openOp()}, commitOp(), commitStages(open, "", documentCommitRecord(2, root)))
}

func TestDeathInAnOpening(t *testing.T) {
	const w = 8
	encs, root := documentTree(numbered(1), w)
	log, _ := logOf([]commitOf{{encs, root}})
	cut := impl.Disk{Stable: log, Now: log, Cap: 9999}
	for _, tail := range []string{"x", zeros(64), documentNodeRecord(leaf("a", "1")), documentCommitRecord(3, "")} {
		for _, stable := range []int{0, 64, len(log), len(log + tail)} {
			d := impl.Disk{Stable: (log + tail)[:stable], Now: log + tail, Cap: 9999}
			wantDeaths(t, "a tail", w, d, nil, openOp(), []impl.Disk{d, cut})
			wantDeaths(t, "a tail after a crash", w, d, []impl.Op{openOp(), crashOp(64)}, openOp(), []impl.Disk{cut})
		}
	}
	wantDeaths(t, "no tail", w, cut, nil, openOp(), []impl.Disk{cut})
	wantDeaths(t, "nothing", w, impl.Disk{Cap: 9999}, nil, openOp(), []impl.Disk{{Cap: 9999}})
}

// Only disk steps are counted, and one that is not made is none.
func TestWhatNeedsNoStep(t *testing.T) {
	reads := []impl.Op{putOp("b", "2"), delOp("b"), getOp("a"), rangeOp("", ""), checkoutOp(1), versionsOp(), proveOp(1, "", ""), diffOp(1, 1), closeOp(), openOp(), fuelOp(0), closeOp(), openOp()}
	made := []impl.Op{openOp(), putOp("a", "1"), commitOp(), fuelOp(0)}
	ops := slices.Concat(made, reads, reads, []impl.Op{commitOp()})
	codes := make([]int, len(ops))
	codes[len(ops)-1] = impl.StoreDead
	wantCodes(t, "no step", 8, impl.Disk{Cap: 9999}, ops, codes...)
	ops = []impl.Op{openOp(), putOp("a", "1"), commitOp(), fuelOp(0), putOp("b", "1"), commitOp(), versionsOp(), fuelOp(4), commitOp()}
	wantCodes(t, "no room", 8, impl.Disk{Cap: 300}, ops, 0, 0, 0, 0, 0, impl.StoreFull, 0, 0, impl.StoreFull)
	one, two := twinKeys(1)
	ops = []impl.Op{openOp(), putOp(one, ""), commitOp(), fuelOp(0), delOp(one), putOp(two, ""), commitOp(), getOp(two), commitOp()}
	wantCodes(t, "a collision", 1, impl.Disk{Cap: 9999}, ops, 0, 0, 0, 0, 0, 0, impl.StoreCollision, 0, impl.StoreCollision)
}

// The number goes down by one a step, through commits and openings alike.
func TestTheStepsOfManyOperations(t *testing.T) {
	tail := documentCommitRecord(1, "") + "tail"
	// The steps of these are 1, 4, 2, 0, 4, 2.
	ops := []impl.Op{openOp(), putOp("a", "1"), commitOp(), commitOp(), closeOp(), openOp(), putOp("b", "2"), commitOp(), commitOp()}
	places := []int{0, 2, 2, 2, 2, 3, 3, 7, 7, 7, 7, 8, 8}
	d := impl.Disk{Stable: tail, Now: tail, Cap: 9999}
	for fuel, at := range places {
		o := wantExec(t, strconv.Itoa(fuel), 8, d, append([]impl.Op{fuelOp(fuel)}, ops...))
		for i, a := range o.Answers[1:] {
			if (a.Code == impl.StoreDead) != (i >= at) || i < at && a.Code != impl.StoreOk {
				t.Errorf("%d steps: operation %d has code %d", fuel, i, a.Code)
			}
		}
	}
	o := wantExec(t, "enough", 8, d, append([]impl.Op{fuelOp(len(places))}, append(ops, commitOp())...))
	if got := o.Answers[len(ops)].Code; got != impl.StoreOk || o.Answers[len(ops)+1].Code != impl.StoreDead {
		t.Errorf("code %d with all the steps", got)
	}
}

func TestStepsForEver(t *testing.T) {
	commits := slices.Repeat([]impl.Op{commitOp()}, 50)
	for what, before := range map[string][]impl.Op{
		"at first":        {openOp()},
		"set":             {openOp(), fuelOp(-1)},
		"set again":       {openOp(), fuelOp(1), fuelOp(-1)},
		"after a crash":   {fuelOp(1), crashOp(), openOp()},
		"a crash, closed": {fuelOp(0), crashOp(), openOp()},
		"a crash, open":   {openOp(), fuelOp(1), crashOp(), openOp()},
		"three crashes":   {openOp(), fuelOp(1), crashOp(), crashOp(), fuelOp(0), crashOp(), openOp()},
	} {
		o := wantCodes(t, what, 8, impl.Disk{Cap: impl.MaxDisk}, slices.Concat(before, commits), make([]int, len(before)+50)...)
		wantLast(t, what, o, impl.Answer{N: 50})
	}
	for what, before := range map[string][]impl.Op{
		"set last":           {fuelOp(-1), openOp(), fuelOp(1)},
		"set after a crash":  {fuelOp(-1), crashOp(), fuelOp(1), openOp()},
		"kept when closed":   {openOp(), fuelOp(1), closeOp(), openOp()},
		"not set by a fault": {openOp(), fuelOp(1), fuelOp(-2), {Kind: impl.OpFuel, N: -1, M: 1}, {Kind: impl.OpCrash, N: 1}},
	} {
		o := wantExec(t, what, 8, impl.Disk{Cap: impl.MaxDisk}, slices.Concat(before, commits))
		if got := o.Answers[len(before)].Code; got != impl.StoreDead {
			t.Errorf("%s: code %d", what, got)
		}
	}
}

// A process that has died lives again after a crash, and for ever.
func TestDeathAndCrashByTurns(t *testing.T) {
	ops := []impl.Op{openOp()}
	codes := []int{0}
	for i := range 20 {
		ops = append(ops, putOp(strconv.Itoa(i), "v"), fuelOp(i%4), commitOp(), commitOp(), crashOp(), openOp(), putOp(strconv.Itoa(i), "v"), commitOp())
		codes = append(codes, 0, 0, 8, 8, 0, 0, 0, 0)
	}
	o := wantCodes(t, "turns", 8, impl.Disk{Cap: impl.MaxDisk}, ops, codes...)
	if last := o.Answers[len(ops)-1]; last.N != 20 {
		t.Errorf("%d versions", last.N)
	}
}

// The number of steps is that of the process, not of its time in a mode: an operation that is refused leaves it.
func TestRefusedOperationsLeaveTheSteps(t *testing.T) {
	ops := []impl.Op{commitOp(), fuelOp(2), commitOp(), opOf(0), putOp("", ""), openOp(), openOp(), checkoutOp(1), getOp("a"), {Kind: impl.OpCommit, N: 1}, commitOp(), commitOp()}
	wantCodes(t, "refused", 8, impl.Disk{Cap: 999}, ops, 1, 0, 1, 2, 2, 0, 1, 3, 3, 2, 0, 8)
}
