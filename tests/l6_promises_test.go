package tests

import (
	"math/rand"
	"slices"
	"strconv"
	"testing"

	"loop.example/s03048/impl"
)

// mapList is what promise 14 says that a store is: a list of maps, and a draft. It knows nothing of pools and disks.
type mapList struct {
	t        *testing.T
	what     string
	w        int
	versions [][]impl.Pair
	draft    []impl.Pair
	// dying is the draft that was being committed when the process died.
	dying   []impl.Pair
	mayBeIn bool
}

func (m *mapList) fail(op impl.Op, a impl.Answer) {
	m.t.Helper()
	m.t.Fatalf("%s, width %d, %d versions, %d pairs, %s: %s", m.what, m.w, len(m.versions), len(m.draft), shownOp(op), shownAnswer(a))
}

// take holds one answer to the list, and the list to the answer.
func (m *mapList) take(op impl.Op, a impl.Answer) {
	m.t.Helper()
	if a.Code != impl.StoreOk {
		m.takeCode(op, a)
		return
	}
	switch op.Kind {
	case impl.OpOpen:
		m.open(op, a)
	case impl.OpPut:
		m.draft = with(m.draft, op.Key, op.Val)
		m.want(op, a, impl.Answer{})
	case impl.OpDel:
		m.draft = without(m.draft, op.Key)
		m.want(op, a, impl.Answer{})
	case impl.OpGet:
		val, found := valueIn(m.draft, op.Key)
		m.want(op, a, impl.Answer{Val: val})
		if !found {
			m.fail(op, a)
		}
	case impl.OpRange:
		m.want(op, a, impl.Answer{Pairs: pairsBetween(m.draft, op.Key, op.Val)})
	case impl.OpCommit:
		m.versions = append(m.versions, m.draft)
		m.want(op, a, impl.Answer{N: len(m.versions), Val: impl.Root(m.draft, m.w)})
	case impl.OpVersions:
		m.want(op, a, impl.Answer{N: len(m.versions), Vals: m.roots()})
	case impl.OpCheckout:
		m.draft = m.versions[op.N-1]
		m.want(op, a, impl.Answer{})
	case impl.OpProve:
		m.wantProof(op, a)
	case impl.OpDiff:
		m.wantDiff(op, a)
	default:
		m.want(op, a, impl.Answer{})
	}
}

func (m *mapList) want(op impl.Op, a impl.Answer, want impl.Answer) {
	m.t.Helper()
	if !sameAnswer(a, want) {
		m.fail(op, a)
	}
}

func (m *mapList) roots() []string {
	var roots []string
	for _, ps := range m.versions {
		roots = append(roots, impl.Root(ps, m.w))
	}
	return roots
}

func (m *mapList) has(version int) bool {
	return version >= 1 && version <= len(m.versions)
}

// takeCode asks whether a code is one that its paragraph names; the list stays as it is.
func (m *mapList) takeCode(op impl.Op, a impl.Answer) {
	m.t.Helper()
	_, found := valueIn(m.draft, op.Key)
	right := false
	switch a.Code {
	case impl.StoreState:
		right = true
	case impl.StoreNone:
		right = op.Kind == impl.OpGet && !found ||
			(op.Kind == impl.OpCheckout || op.Kind == impl.OpProve) && !m.has(op.N) || op.Kind == impl.OpDiff && !(m.has(op.N) && m.has(op.M))
	case impl.StoreCollision:
		right = op.Kind == impl.OpCommit
		wantTwins(m.t, m.what, a.A, a.B, m.w)
		a.A, a.B = "", ""
	case impl.StoreFull:
		right = op.Kind == impl.OpCommit
	case impl.StoreMany:
		right = op.Kind == impl.OpPut && len(m.draft) == impl.MaxPairs && !found
	case impl.StoreDead:
		right = true
		if op.Kind == impl.OpCommit && !m.mayBeIn {
			m.dying, m.mayBeIn = m.draft, true
		}
	}
	if !right || !sameAnswer(a, coded(a.Code)) {
		m.fail(op, a)
	}
}

// open may find one version more: the one that was being committed.
func (m *mapList) open(op impl.Op, a impl.Answer) {
	m.t.Helper()
	if m.mayBeIn && a.N == len(m.versions)+1 {
		m.versions = append(m.versions, m.dying)
	}
	m.mayBeIn = false
	m.want(op, a, impl.Answer{N: len(m.versions)})
	m.draft = nil
	if len(m.versions) > 0 {
		m.draft = m.versions[len(m.versions)-1]
	}
}

func (m *mapList) wantProof(op impl.Op, a impl.Answer) {
	m.t.Helper()
	ps := m.versions[op.N-1]
	shown, ok := impl.Verify(m.w, impl.Root(ps, m.w), op.Key, op.Val, a.Val)
	if !ok || !slices.Equal(shown, pairsBetween(ps, op.Key, op.Val)) {
		m.fail(op, a)
	}
}

func (m *mapList) wantDiff(op impl.Op, a impl.Answer) {
	m.t.Helper()
	from, to := m.versions[op.N-1], m.versions[op.M-1]
	m.want(op, a, impl.Answer{Changes: a.Changes})
	if !slices.Equal(applied(m.t, from, a.Changes), to) {
		m.fail(op, a)
	}
	for _, c := range a.Changes {
		if c.Had == c.Has && c.Old == c.New {
			m.fail(op, a)
		}
	}
}

// mapsOf holds a whole session, on a disk with nothing on it, to the list of maps.
func mapsOf(t *testing.T, what string, w int, room int, ops []impl.Op) (*mapList, impl.Outcome) {
	t.Helper()
	m := &mapList{t: t, what: what, w: w}
	o := impl.Exec(w, impl.Disk{Cap: room}, ops)
	if len(o.Answers) != len(ops) {
		t.Fatalf("%s: %d answers to %d operations", what, len(o.Answers), len(ops))
	}
	for i, a := range o.Answers {
		m.take(ops[i], a)
	}
	return m, o
}

// lookAtAll asks for all of every version, and leaves the draft that it finds if that is the last version.
func lookAtAll(most int) []impl.Op {
	ops := []impl.Op{versionsOp(), rangeOp("", "")}
	for version := range most + 2 {
		ops = append(ops, checkoutOp(version), rangeOp("", ""), proveOp(version, "", ""))
	}
	return ops
}

// asDescribedOp leaves out faults, crashes and fuel.
func asDescribedOp(r *rand.Rand) impl.Op {
	for {
		op := mixedOp(r)
		if op.Kind >= 1 && op.Kind < impl.OpCrash && documentFields(op) && documentSizes(op) {
			return op
		}
	}
}

// Promise 14.
func TestAnswersAreThoseOfAListOfMaps(t *testing.T) {
	counts := map[int]int{}
	for seed := range 240 {
		r := rand.New(rand.NewSource(int64(seed)))
		w := storeWidths()[seed%4]
		room := []int{1000, 20000, impl.MaxDisk}[seed%3]
		ops := []impl.Op{openOp()}
		for range 150 {
			ops = append(ops, asDescribedOp(r))
		}
		ops = append(append(ops, openOp()), lookAtAll(20)...)
		_, o := mapsOf(t, "seed "+strconv.Itoa(seed), w, room, ops)
		for _, a := range o.Answers {
			counts[a.Code]++
		}
	}
	for _, code := range []int{impl.StoreOk, impl.StoreState, impl.StoreNone, impl.StoreCollision, impl.StoreFull} {
		if counts[code] < 50 {
			t.Errorf("code %d: %d times", code, counts[code])
		}
	}
}

// A great map, changed bit by bit, with all the versions there at the end.
func TestVersionsNeverChange(t *testing.T) {
	for _, w := range []int{2, 8, 32} {
		ops := append([]impl.Op{openOp()}, putOps(numbered(300))...)
		for i := range 25 {
			ops = append(ops, commitOp(), putOp(strconv.Itoa(10000+i*35), "changed"), delOp(strconv.Itoa(10000+i*49)), putOp("new"+strconv.Itoa(i), strconv.Itoa(i)))
		}
		ops = append(append(ops, closeOp(), openOp()), lookAtAll(26)...)
		m, _ := mapsOf(t, "a great map", w, impl.MaxDisk, ops)
		if w > 2 && len(m.versions) != 25 {
			t.Errorf("width %d: %d versions", w, len(m.versions))
		}
	}
}

// Refusals leave versions and draft as they were: what is asked after them is answered as if they had not been.
func TestRefusalsChangeNothing(t *testing.T) {
	faults := notAsDescribed()
	for seed := range 60 {
		r := rand.New(rand.NewSource(int64(seed)))
		w := []int{1, 8}[seed%2]
		plain := []impl.Op{openOp()}
		for range 60 {
			plain = append(plain, asDescribedOp(r))
		}
		want := impl.Exec(w, impl.Disk{Cap: 9999}, plain)
		var ops []impl.Op
		for _, op := range plain {
			for range r.Intn(3) {
				ops = append(ops, faults[r.Intn(len(faults))])
			}
			ops = append(ops, op)
		}
		got := impl.Exec(w, impl.Disk{Cap: 9999}, ops)
		at := 0
		for i, op := range ops {
			if !documentFields(op) || !documentSizes(op) || op.Kind < 1 || op.Kind > 13 {
				if !sameAnswer(got.Answers[i], coded(impl.StoreBad)) {
					t.Fatalf("seed %d, %s: %s", seed, shownOp(op), shownAnswer(got.Answers[i]))
				}
				continue
			}
			if !sameAnswer(got.Answers[i], want.Answers[at]) {
				t.Fatalf("seed %d, %s: %s\nwithout the refusals %s", seed, shownOp(op), shownAnswer(got.Answers[i]), shownAnswer(want.Answers[at]))
			}
			at++
		}
		if got.Disk != want.Disk || got.Mode != want.Mode {
			t.Errorf("seed %d: %s, want %s", seed, shownDisk(got.Disk), shownDisk(want.Disk))
		}
	}
}

// commitLike is a value that has, in the room of each sector of its node's record, the body of a commit of that version.
func commitLike(key string, version int) string {
	body := documentCommitRecord(version, "")[:63]
	// The record has four bytes for its size, two for that of the key, and two for that of the value before it.
	pad := 63 - (4+2+len(key)+2)%63
	return body[63-pad:] + body + body[:62]
}

// Promise 15, at every step and with every choice of what is on the disk of the sectors that are not safe.
func TestEveryCrashInOneCommit(t *testing.T) {
	drafts := map[string][]impl.Op{
		"one more key":         {putOp("b", "2")},
		"nothing":              {delOp("a")},
		"the same":             nil,
		"like a commit":        {putOp("k", commitLike("k", 2)), delOp("a")},
		"like a commit, three": {putOp("k", commitLike("k", 3)), delOp("a")},
		"two keys":             {putOp("b", "2"), putOp("c", "3"), delOp("a")},
	}
	for what, draft := range drafts {
		for _, w := range []int{1, 8, 32} {
			before := append([]impl.Op{openOp(), putOp("a", "1"), commitOp()}, draft...)
			found := map[int]int{}
			for steps := range 5 {
				for _, picks := range manyPicks(4) {
					ops := slices.Concat(before, []impl.Op{fuelOp(steps), commitOp(), crashOp(picks...), openOp()}, lookAtAll(2))
					m, o := mapsOf(t, what+", "+strconv.Itoa(steps)+" steps", w, 9999, ops)
					if o.Answers[len(before)+3].Code != impl.StoreOk {
						t.Fatalf("%s: %d steps, picks %v: opened with code %d", what, steps, picks, o.Answers[len(before)+3].Code)
					}
					found[len(m.versions)]++
				}
			}
			if found[1] == 0 || found[2] == 0 || len(found) != 2 {
				t.Errorf("%s: how often there were how many versions: %v", what, found)
			}
		}
	}
}

// manyPicks are all lists of a size of a few picks: nothing, a part, and all of a sector.
func manyPicks(size int) [][]int {
	lists := [][]int{nil}
	for range size {
		var longer [][]int
		for _, list := range lists {
			for _, pick := range []int{0, 63, 64} {
				longer = append(longer, append(slices.Clone(list), pick))
			}
		}
		lists = longer
	}
	return append(lists, nil, []int{-1, 70}, []int{0, 0, 0, 0, 64, 64})
}

// A value that is all bodies of commits is no commit, wherever its record is torn.
func TestValuesThatLookLikeCommits(t *testing.T) {
	for version := 1; version <= 4; version++ {
		for _, size := range []int{63, 200, 500} {
			val := forgedVal(version, size)
			for shift := range 8 {
				key := mixedText(1 + shift)
				sectors := len(documentNodeRecord(leaf(key, val))) / 64
				for steps := range 5 {
					for _, picks := range [][]int{nil, slices.Repeat([]int{64}, 20), append(make([]int, sectors-1), 64), append([]int{0}, slices.Repeat([]int{64}, 20)...)} {
						ops := []impl.Op{openOp(), commitOp(), putOp(key, val), fuelOp(steps), commitOp(), crashOp(picks...), openOp()}
						mapsOf(t, "version "+strconv.Itoa(version), 8, 9999, append(ops, lookAtAll(2)...))
					}
				}
			}
		}
	}
}

// Promise 15 over sessions with any number of crashes, at any step and with any picks.
func TestCrashAfterCrash(t *testing.T) {
	deaths, more := 0, 0
	for seed := range 1200 {
		r := rand.New(rand.NewSource(int64(seed)))
		w := storeWidths()[seed%4]
		ops := []impl.Op{openOp()}
		for range 6 {
			for range r.Intn(6) {
				ops = append(ops, []impl.Op{putOp(mixedKey(r), mixedVal(r)), delOp(mixedKey(r)), putOp("k", commitLike("k", 1+r.Intn(5)))}[r.Intn(3)])
			}
			ops = append(ops, commitOp(), checkoutOp(r.Intn(4)), putOp(mixedKey(r), mixedVal(r)), fuelOp(r.Intn(6)), commitOp(), crashOp(mixedPicks(r)...))
			// The opening itself may die, before the cut.
			for r.Intn(3) == 0 {
				ops = append(ops, fuelOp(0), openOp(), crashOp(mixedPicks(r)...))
			}
			ops = append(ops, fuelOp(-1), openOp(), versionsOp(), rangeOp("", ""))
		}
		ops = append(ops, lookAtAll(14)...)
		m, o := mapsOf(t, "seed "+strconv.Itoa(seed), w, 99999, ops)
		wantAlwaysOpened(t, "seed "+strconv.Itoa(seed), ops, o)
		for i, a := range o.Answers {
			if a.Code == impl.StoreDead && ops[i].Kind == impl.OpCommit {
				deaths++
			}
		}
		more += len(m.versions)
	}
	if deaths < 500 || more < 3000 {
		t.Errorf("%d commits died, %d versions at the end", deaths, more)
	}
}

// wantAlwaysOpened asks for StoreOk at each opening of a process that has steps enough.
func wantAlwaysOpened(t *testing.T, what string, ops []impl.Op, o impl.Outcome) {
	t.Helper()
	for i, a := range o.Answers {
		lives := i == 0 || ops[i-1].Kind == impl.OpFuel && ops[i-1].N == -1
		if ops[i].Kind == impl.OpOpen && lives && a.Code != impl.StoreOk {
			t.Fatalf("%s: operation %d, code %d", what, i, a.Code)
		}
	}
}

// A crash of what is safe takes nothing, in whatever mode.
func TestCrashOfWhatIsSafe(t *testing.T) {
	for _, picks := range [][]int{nil, {0}, {64, 64, 64}, {-1, 5}} {
		for _, between := range [][]impl.Op{nil, {closeOp()}, {putOp("lost", "x")}, {crashOp()}, {fuelOp(0), putOp("lost", "x"), commitOp()}} {
			ops := slices.Concat([]impl.Op{openOp(), putOp("a", "1"), commitOp(), putOp("a", "2"), commitOp()}, between, []impl.Op{crashOp(picks...), openOp()}, lookAtAll(2))
			m, o := mapsOf(t, "a crash", 8, 9999, ops)
			if len(m.versions) != 2 || o.Disk.Now != o.Disk.Stable {
				t.Errorf("%d versions, %s", len(m.versions), shownDisk(o.Disk))
			}
		}
	}
}

// A disk of which not all is safe loses it in a crash, whole commits too: promise 15 is of one with nothing on it.
func TestCrashOfADiskThatWasNotSafe(t *testing.T) {
	var commits []commitOf
	for count := range 6 {
		encs, root := documentTree(numbered(count), 8)
		commits = append(commits, commitOf{encs, root})
	}
	log, ends := logOf(commits)
	for i, end := range ends {
		d := impl.Disk{Stable: log[:end], Now: log, Cap: 9999}
		o := wantCodes(t, "not safe", 8, d, []impl.Op{openOp(), crashOp(), openOp()}, 0, 0, 0)
		wantLast(t, "not safe", o, impl.Answer{N: len(commits)}, impl.Answer{}, impl.Answer{N: i + 1})
	}
}

// Promise 16, on any disk, with what is left behind a StoreDamaged as well.
func TestOpeningAgainChangesNothing(t *testing.T) {
	codes := map[int]int{}
	for seed := range 1500 {
		r := rand.New(rand.NewSource(int64(seed)))
		w := storeWidths()[seed%4]
		d := mixedDisk(r, w)
		once := impl.Exec(w, d, []impl.Op{openOp()})
		codes[once.Answers[0].Code]++
		again := impl.Exec(w, once.Disk, []impl.Op{openOp()})
		if again.Disk != once.Disk || !sameAnswer(again.Answers[0], once.Answers[0]) {
			t.Fatalf("seed %d: %s, then %s", seed, shownDisk(once.Disk), shownDisk(again.Disk))
		}
		both := impl.Exec(w, d, []impl.Op{openOp(), closeOp(), fuelOp(0), openOp(), crashOp(64, 64, 64), openOp()})
		crashed := impl.DiskCrash(once.Disk, []int{64, 64, 64})
		if last := impl.Exec(w, crashed, []impl.Op{openOp()}); both.Disk != last.Disk {
			t.Fatalf("seed %d: %s, want %s", seed, shownDisk(both.Disk), shownDisk(last.Disk))
		}
		in := impl.Exec(w, d, []impl.Op{openOp(), closeOp(), fuelOp(0), openOp()})
		if in.Disk != once.Disk || !sameAnswer(in.Answers[3], once.Answers[0]) {
			t.Fatalf("seed %d: %s, then %s in one session", seed, shownDisk(once.Disk), shownDisk(in.Disk))
		}
	}
	if codes[impl.StoreOk] < 500 || codes[impl.StoreDamaged] < 20 {
		t.Errorf("codes %v", codes)
	}
}
