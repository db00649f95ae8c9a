package tests

import (
	"fmt"
	"math/rand"
	"slices"
	"strconv"
	"testing"

	"loop.example/s03048/impl"
)

// What stands here goes by the words of the document's chapter 6, with no function of that chapter.

// documentProcess is a process with its disk.
type documentProcess struct {
	w     int
	disk  impl.Disk
	steps int
	mode  int
	pool  impl.Pool
	roots []string
	draft []impl.Pair
}

func documentValidDisk(d impl.Disk) bool {
	return len(d.Stable) <= len(d.Now) && d.Now[:len(d.Stable)] == d.Stable && len(d.Now) <= d.Cap && d.Cap >= 0 && d.Cap <= 1048576
}

func documentExec(w int, d impl.Disk, ops []impl.Op) impl.Outcome {
	if w < 1 || w > 32 || !documentValidDisk(d) || len(ops) > 1000 {
		return impl.Outcome{}
	}
	p := &documentProcess{w: w, disk: d, steps: -1}
	var out impl.Outcome
	for _, op := range ops {
		out.Answers = append(out.Answers, p.answer(op))
	}
	out.Disk, out.Mode = p.disk, p.mode
	return out
}

func coded(code int) impl.Answer {
	return impl.Answer{Code: code}
}

func (p *documentProcess) answer(op impl.Op) impl.Answer {
	if p.mode == impl.ModeDead && op.Kind != impl.OpCrash {
		return coded(impl.StoreDead)
	}
	if op.Kind < 1 || op.Kind > 13 || !documentFields(op) || !documentSizes(op) {
		return coded(impl.StoreBad)
	}
	wrongMode := p.mode != impl.ModeOpen
	if op.Kind == impl.OpOpen {
		wrongMode = p.mode != impl.ModeClosed
	}
	if wrongMode && op.Kind != impl.OpCrash && op.Kind != impl.OpFuel {
		return coded(impl.StoreState)
	}
	return p.execute(op)
}

// namedFields are those that stand in the brackets behind the name of an operation.
func namedFields(kind int) []string {
	return map[int][]string{
		impl.OpPut:      {"Key", "Val"},
		impl.OpDel:      {"Key"},
		impl.OpGet:      {"Key"},
		impl.OpRange:    {"Key", "Val"},
		impl.OpCheckout: {"N"},
		impl.OpProve:    {"N", "Key", "Val"},
		impl.OpDiff:     {"N", "M"},
		impl.OpCrash:    {"Picks"},
		impl.OpFuel:     {"N"},
	}[kind]
}

func setFields(op impl.Op) map[string]bool {
	return map[string]bool{"Key": op.Key != "", "Val": op.Val != "", "N": op.N != 0, "M": op.M != 0, "Picks": len(op.Picks) > 0}
}

func documentFields(op impl.Op) bool {
	for field, set := range setFields(op) {
		if set && !slices.Contains(namedFields(op.Kind), field) {
			return false
		}
	}
	return true
}

func documentSizes(op impl.Op) bool {
	switch op.Kind {
	case impl.OpPut:
		return len(op.Key) >= 1 && len(op.Key) <= 256 && len(op.Val) <= 2000
	case impl.OpDel, impl.OpGet:
		return len(op.Key) >= 1 && len(op.Key) <= 256
	case impl.OpCrash:
		return len(op.Picks) <= 20000
	case impl.OpFuel:
		return op.N >= -1
	}
	return true
}

func (p *documentProcess) execute(op impl.Op) impl.Answer {
	switch op.Kind {
	case impl.OpOpen:
		return p.open()
	case impl.OpPut:
		if _, found := valueIn(p.draft, op.Key); len(p.draft) == 500 && !found {
			return coded(impl.StoreMany)
		}
		p.draft = with(p.draft, op.Key, op.Val)
	case impl.OpDel:
		p.draft = without(p.draft, op.Key)
	case impl.OpGet:
		val, found := valueIn(p.draft, op.Key)
		if !found {
			return coded(impl.StoreNone)
		}
		return impl.Answer{Val: val}
	case impl.OpRange:
		return impl.Answer{Pairs: pairsBetween(p.draft, op.Key, op.Val)}
	case impl.OpCommit:
		return p.commit()
	case impl.OpVersions:
		return impl.Answer{N: len(p.roots), Vals: slices.Clone(p.roots)}
	case impl.OpCheckout, impl.OpProve, impl.OpDiff:
		return p.ofVersion(op)
	case impl.OpClose:
		p.mode, p.draft = impl.ModeClosed, nil
	case impl.OpCrash:
		p.disk, p.mode, p.steps = documentCrash(p.disk, op.Picks), impl.ModeClosed, -1
	case impl.OpFuel:
		p.steps = op.N
	}
	return impl.Answer{}
}

// dies says whether the process does so before the next disk step.
func (p *documentProcess) dies() bool {
	if p.steps == 0 {
		p.mode = impl.ModeDead
		return true
	}
	if p.steps > 0 {
		p.steps--
	}
	return false
}

func (p *documentProcess) open() impl.Answer {
	log := documentScan(p.disk.Now, p.w)
	if log.End < len(p.disk.Now) {
		if p.dies() {
			return coded(impl.StoreDead)
		}
		p.disk.Now = p.disk.Now[:log.End]
		p.disk.Stable = p.disk.Now
	}
	pool := poolWith(p.w, log.Nodes...)
	var draft []impl.Pair
	if len(log.Roots) > 0 {
		pairs, code := documentLoad(pool, log.Roots[len(log.Roots)-1])
		if code != impl.TreeOk {
			return coded(impl.StoreDamaged)
		}
		draft = pairs
	}
	p.mode, p.pool, p.roots, p.draft = impl.ModeOpen, pool, log.Roots, draft
	return impl.Answer{N: len(log.Roots)}
}

func (p *documentProcess) commit() impl.Answer {
	s := documentSave(p.pool, p.draft)
	if s.Code == impl.TreeCollision {
		return impl.Answer{Code: impl.StoreCollision, A: s.A, B: s.B}
	}
	if s.Code != impl.TreeOk {
		return coded(impl.StoreFull)
	}
	nodes := textOfNodes(s.Pool.Encs[len(p.pool.Encs):])
	version := len(p.roots) + 1
	commit := documentCommitRecord(version, s.Root)
	if p.disk.Cap < len(p.disk.Now)+len(nodes)+len(commit) || len(p.roots) == 1000000 {
		return coded(impl.StoreFull)
	}
	for _, text := range []string{nodes, commit} {
		if text == "" {
			continue
		}
		if p.dies() {
			return coded(impl.StoreDead)
		}
		p.disk.Now += text
		if p.dies() {
			return coded(impl.StoreDead)
		}
		p.disk.Stable = p.disk.Now
	}
	p.pool, p.roots = s.Pool, append(p.roots, s.Root)
	return impl.Answer{N: version, Val: s.Root}
}

func (p *documentProcess) ofVersion(op impl.Op) impl.Answer {
	versions := []int{op.N}
	if op.Kind == impl.OpDiff {
		versions = append(versions, op.M)
	}
	var roots []string
	for _, version := range versions {
		if version < 1 || version > len(p.roots) {
			return coded(impl.StoreNone)
		}
		roots = append(roots, p.roots[version-1])
	}
	var answer impl.Answer
	var code int
	switch op.Kind {
	case impl.OpCheckout:
		var draft []impl.Pair
		if draft, code = documentLoad(p.pool, roots[0]); code == impl.TreeOk {
			p.draft = draft
		}
	case impl.OpProve:
		answer.Val, code = documentProve(p.pool, roots[0], op.Key, op.Val)
	case impl.OpDiff:
		answer.Changes, code = documentDiff(p.pool, roots[0], roots[1])
	}
	if code != impl.TreeOk {
		return coded(impl.StoreDamaged)
	}
	return answer
}

func sameAnswer(a impl.Answer, b impl.Answer) bool {
	return a.Code == b.Code && a.N == b.N && a.Val == b.Val && a.A == b.A && a.B == b.B &&
		slices.Equal(a.Pairs, b.Pairs) && slices.Equal(a.Vals, b.Vals) && slices.Equal(a.Changes, b.Changes)
}

func shownOp(op impl.Op) string {
	return fmt.Sprintf("kind %d, key %.30q, val %.30q, n %d, m %d, %d picks", op.Kind, op.Key, op.Val, op.N, op.M, len(op.Picks))
}

func shownAnswer(a impl.Answer) string {
	return fmt.Sprintf("code %d, n %d, %.300q", a.Code, a.N, fmt.Sprint(a))
}

// wantExec holds a session to the document and gives its outcome.
func wantExec(t *testing.T, what string, w int, d impl.Disk, ops []impl.Op) impl.Outcome {
	t.Helper()
	got, want := impl.Exec(w, d, ops), documentExec(w, d, ops)
	if len(got.Answers) != len(want.Answers) {
		t.Fatalf("%s, width %d: %d answers, want %d", what, w, len(got.Answers), len(want.Answers))
	}
	for i, a := range got.Answers {
		if !sameAnswer(a, want.Answers[i]) {
			t.Fatalf("%s, width %d, operation %d (%s): %s\nwant %s", what, w, i, shownOp(ops[i]), shownAnswer(a), shownAnswer(want.Answers[i]))
		}
	}
	if got.Disk != want.Disk || got.Mode != want.Mode {
		t.Fatalf("%s, width %d: %s, mode %d, want %s, mode %d", what, w, shownDisk(got.Disk), got.Mode, shownDisk(want.Disk), want.Mode)
	}
	return got
}

// wantCodes holds a session to the document and to the codes that a test names.
func wantCodes(t *testing.T, what string, w int, d impl.Disk, ops []impl.Op, codes ...int) impl.Outcome {
	t.Helper()
	o := wantExec(t, what, w, d, ops)
	if len(o.Answers) != len(codes) {
		t.Fatalf("%s, width %d: %d answers, want %d", what, w, len(o.Answers), len(codes))
	}
	for i, a := range o.Answers {
		if a.Code != codes[i] {
			t.Fatalf("%s, width %d, operation %d (%s): code %d, want %d", what, w, i, shownOp(ops[i]), a.Code, codes[i])
		}
	}
	return o
}

// The operations, each with the fields that it has.

func opOf(kind int) impl.Op { return impl.Op{Kind: kind} }

func openOp() impl.Op { return opOf(impl.OpOpen) }

func commitOp() impl.Op { return opOf(impl.OpCommit) }

func versionsOp() impl.Op { return opOf(impl.OpVersions) }

func closeOp() impl.Op { return opOf(impl.OpClose) }

func putOp(key string, val string) impl.Op { return impl.Op{Kind: impl.OpPut, Key: key, Val: val} }

func delOp(key string) impl.Op { return impl.Op{Kind: impl.OpDel, Key: key} }

func getOp(key string) impl.Op { return impl.Op{Kind: impl.OpGet, Key: key} }

func rangeOp(lo string, hi string) impl.Op { return impl.Op{Kind: impl.OpRange, Key: lo, Val: hi} }

func checkoutOp(version int) impl.Op { return impl.Op{Kind: impl.OpCheckout, N: version} }

func proveOp(version int, lo string, hi string) impl.Op {
	return impl.Op{Kind: impl.OpProve, N: version, Key: lo, Val: hi}
}

func diffOp(from int, to int) impl.Op { return impl.Op{Kind: impl.OpDiff, N: from, M: to} }

func crashOp(picks ...int) impl.Op { return impl.Op{Kind: impl.OpCrash, Picks: picks} }

func fuelOp(steps int) impl.Op { return impl.Op{Kind: impl.OpFuel, N: steps} }

func putOps(ps []impl.Pair) []impl.Op {
	var ops []impl.Op
	for _, p := range ps {
		ops = append(ops, putOp(p.Key, p.Val))
	}
	return ops
}

// safe is a disk on which all is.
func safe(text string) impl.Disk {
	return impl.Disk{Stable: text, Now: text, Cap: impl.MaxDisk}
}

func mixedPicks(r *rand.Rand) []int {
	var picks []int
	for range r.Intn(9) {
		choice := []int{-1, 0, 0, 1, 30, 63, 64, 64, 64, 65, 1000}
		picks = append(picks, choice[r.Intn(len(choice))])
	}
	return picks
}

// mixedOp is an operation that is as described, but for one in some thirty.
func mixedOp(r *rand.Rand) impl.Op {
	switch n := r.Intn(60); {
	case n < 18:
		return putOp(mixedKey(r), mixedVal(r))
	case n < 22:
		return delOp(mixedKey(r))
	case n < 25:
		return getOp(mixedKey(r))
	case n < 28:
		return rangeOp(mixedBound(r), mixedBound(r))
	case n < 36:
		return commitOp()
	case n < 39:
		return checkoutOp(r.Intn(5))
	case n < 41:
		return versionsOp()
	case n < 44:
		return proveOp(r.Intn(5), mixedBound(r), mixedBound(r))
	case n < 47:
		return diffOp(r.Intn(5), r.Intn(5))
	case n < 48:
		return closeOp()
	case n < 51:
		return crashOp(mixedPicks(r)...)
	case n < 53:
		return fuelOp(r.Intn(9) - 1)
	case n < 58:
		return openOp()
	}
	return mixedFault(r)
}

// mixedFault may by chance be an operation as described.
func mixedFault(r *rand.Rand) impl.Op {
	op := impl.Op{Kind: r.Intn(16) - 1, Key: mixedKey(r)}
	switch r.Intn(4) {
	case 0:
		op.Val = mixedText(2000 + r.Intn(2))
	case 1:
		op.N = r.Intn(4) - 2
	case 2:
		op.M = 1
	case 3:
		op.Picks = []int{0}
	}
	return op
}

func mixedOps(r *rand.Rand, count int) []impl.Op {
	var ops []impl.Op
	for range count {
		ops = append(ops, mixedOp(r))
	}
	return ops
}

// mixedDisk begins with nothing, with a log, or with one that is spoiled, and has a tail or not.
func mixedDisk(r *rand.Rand, w int) impl.Disk {
	if r.Intn(2) == 0 {
		caps := []int{0, 63, 64, 128, 700, 3000, impl.MaxDisk, impl.MaxDisk}
		return impl.Disk{Cap: caps[r.Intn(len(caps))]}
	}
	commits := manyCommits(w)[:r.Intn(10)]
	if r.Intn(2) == 0 {
		commits = append(commits, mixedCommits(r, w)...)
	}
	now, _ := logOf(commits)
	switch r.Intn(4) {
	case 0:
		now = now[:r.Intn(len(now)+1)]
	case 1:
		now += mixedText(r.Intn(200))
	}
	stable := now
	if r.Intn(2) == 0 {
		stable = now[:r.Intn(len(now)+1)]
	}
	return impl.Disk{Stable: stable, Now: now, Cap: min(len(now)+r.Intn(3000), impl.MaxDisk)}
}

// mixedCommits are of trees that need not be those of maps.
func mixedCommits(r *rand.Rand, w int) []commitOf {
	var commits []commitOf
	for range r.Intn(4) {
		f := forgedFrom(mixedMap(r, 6))
		if r.Intn(2) == 0 {
			spoil(r, f.nodes())
		}
		encs, root := f.write(w)
		commits = append(commits, commitOf{encs, root})
	}
	return commits
}

func storeWidths() []int {
	return []int{1, 2, 8, 32}
}

// Any operations on any disk.
func TestExecOfManySessions(t *testing.T) {
	counts := map[[2]int]int{}
	for seed := range 3000 {
		r := rand.New(rand.NewSource(int64(seed)))
		w := storeWidths()[seed%4]
		ops := mixedOps(r, 60)
		if r.Intn(4) > 0 {
			ops = append([]impl.Op{openOp()}, ops...)
		}
		o := wantExec(t, "seed "+strconv.Itoa(seed), w, mixedDisk(r, w), ops)
		for i, a := range o.Answers {
			counts[[2]int{ops[i].Kind, a.Code}]++
		}
	}
	for kind := impl.OpOpen; kind <= impl.OpFuel; kind++ {
		for _, code := range documentCodes(kind) {
			if counts[[2]int{kind, code}] < 5 {
				t.Errorf("kind %d, code %d: %d times", kind, code, counts[[2]int{kind, code}])
			}
			delete(counts, [2]int{kind, code})
		}
	}
	for at, count := range counts {
		if at[0] >= impl.OpOpen && at[0] <= impl.OpFuel {
			t.Errorf("kind %d has code %d, %d times", at[0], at[1], count)
		}
	}
}

// documentCodes are all that the document names for a kind, but for StoreMany, which these sessions are too short for.
func documentCodes(kind int) []int {
	codes := []int{impl.StoreOk, impl.StoreBad}
	if kind != impl.OpCrash {
		codes = append(codes, impl.StoreDead)
	}
	if kind != impl.OpCrash && kind != impl.OpFuel {
		codes = append(codes, impl.StoreState)
	}
	switch kind {
	case impl.OpOpen:
		codes = append(codes, impl.StoreDamaged)
	case impl.OpGet:
		codes = append(codes, impl.StoreNone)
	case impl.OpCommit:
		codes = append(codes, impl.StoreCollision, impl.StoreFull)
	case impl.OpCheckout, impl.OpProve, impl.OpDiff:
		codes = append(codes, impl.StoreNone, impl.StoreDamaged)
	}
	return codes
}
