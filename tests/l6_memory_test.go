package tests

import (
	"math"
	"math/rand"
	"runtime"
	"slices"
	"strings"
	"sync"
	"testing"
	"time"

	"loop.example/s03048/impl"
)

// longSession has answers of every kind, with texts that are in no other place.
func longSession() []impl.Op {
	var ops []impl.Op
	for _, op := range []impl.Op{
		openOp(), putOp("first key", "a value of some size"), putOp("second key", "another value"), getOp("first key"), rangeOp("first", "third"), rangeOp("", ""),
		commitOp(), versionsOp(), putOp("second key", "a new value"), commitOp(), commitOp(), versionsOp(), rangeOp("first", "third"), rangeOp("", ""),
		proveOp(1, "first", "third"), proveOp(1, "first", "third"), diffOp(1, 2), diffOp(1, 2), diffOp(2, 1), checkoutOp(1), getOp("second key"), getOp("second key"), rangeOp("", ""),
		closeOp(), openOp(), rangeOp("", ""), versionsOp(), versionsOp(), fuelOp(3), putOp("third key", "lost"), commitOp(), crashOp(5, 0, 64, 900), openOp(), rangeOp("", ""), versionsOp(),
	} {
		op.Key, op.Val = strings.Clone(op.Key), strings.Clone(op.Val)
		op.Picks = slices.Clone(op.Picks)
		ops = append(ops, op)
	}
	return ops
}

func opTexts(ops []impl.Op) []string {
	var out []string
	for _, op := range ops {
		out = append(out, op.Key, op.Val)
	}
	return out
}

func answerTexts(a impl.Answer) []string {
	return append(slices.Concat(pairTexts(a.Pairs), a.Vals, changeTexts(a.Changes)), a.Val, a.A, a.B)
}

func outcomeTexts(o impl.Outcome) []string {
	out := []string{o.Disk.Stable, o.Disk.Now}
	for _, a := range o.Answers {
		out = append(out, answerTexts(a)...)
	}
	return out
}

func sameOp(a impl.Op, b impl.Op) bool {
	return a.Kind == b.Kind && a.Key == b.Key && a.Val == b.Val && a.N == b.N && a.M == b.M && slices.Equal(a.Picks, b.Picks)
}

func TestExecAnswersNewMemory(t *testing.T) {
	encs, root := documentTree(numbered(3), 8)
	log, _ := logOf([]commitOf{{encs, root}})
	for _, d := range []impl.Disk{{Cap: 99999}, {Stable: log[:100], Now: log, Cap: 99999}, {Stable: log, Now: log + strings.Clone("a tail"), Cap: 99999}} {
		for _, ops := range [][]impl.Op{nil, longSession(), longSession()[:1], longSession()[:5]} {
			one, two := impl.Exec(8, d, ops), impl.Exec(8, d, ops)
			given := append(opTexts(ops), d.Now, d.Stable)
			wantNewMemory(t, "a session", outcomeTexts(one), given)
			wantNewMemory(t, "a session, again", outcomeTexts(two), outcomeTexts(one))
			if !slices.Equal(outcomeTexts(one), outcomeTexts(two)) || one.Mode != two.Mode {
				t.Error("the same session twice")
			}
		}
	}
	a, b := twinKeys(1)
	ops := []impl.Op{openOp(), putOp(a, ""), commitOp(), delOp(a), putOp(b, ""), commitOp(), commitOp()}
	o := impl.Exec(1, impl.Disk{Cap: 9999}, ops)
	if o.Answers[5].Code != impl.StoreCollision || o.Answers[6].Code != impl.StoreCollision {
		t.Fatal("no collision")
	}
	wantNewMemory(t, "a collision", outcomeTexts(o), opTexts(ops))
	wantNewMemory(t, "the texts of a collision", []string{o.Answers[5].A}, []string{o.Answers[5].B})
}

// listTexts has the texts of each list of an outcome.
func listTexts(o impl.Outcome) [][]string {
	var out [][]string
	for _, a := range o.Answers {
		out = append(out, pairTexts(a.Pairs), a.Vals, changeTexts(a.Changes))
	}
	return slices.DeleteFunc(out, func(texts []string) bool { return len(texts) == 0 })
}

func TestListsOfAnOutcomeShareNoMemory(t *testing.T) {
	o := impl.Exec(8, impl.Disk{Cap: 99999}, longSession())
	lists := listTexts(o)
	if len(lists) < 12 {
		t.Fatalf("%d lists", len(lists))
	}
	for i, list := range lists {
		wantNewMemory(t, "a list", list, lists[i+1:]...)
	}
	want := impl.Exec(8, impl.Disk{Cap: 99999}, longSession())
	for i := range o.Answers {
		a := o.Answers[i]
		// What is written into one list, and behind it, is seen in no other.
		for j := range a.Pairs {
			a.Pairs[j] = impl.Pair{Key: "changed"}
		}
		for j := range a.Vals {
			a.Vals[j] = "changed"
		}
		for j := range a.Changes {
			a.Changes[j] = impl.Change{Key: "changed"}
		}
		_, _, _ = append(a.Pairs, impl.Pair{Key: "more"}), append(a.Vals, "more"), append(a.Changes, impl.Change{Key: "more"})
		for j := i + 1; j < len(o.Answers); j++ {
			if !sameAnswer(o.Answers[j], want.Answers[j]) {
				t.Fatalf("answer %d changes with answer %d", j, i)
			}
		}
	}
}

func TestExecWritesIntoNoArgument(t *testing.T) {
	ops, before := longSession(), longSession()
	whole := slices.Grow(ops, 10)[:len(ops)+10]
	for i := len(ops); i < len(whole); i++ {
		whole[i] = impl.Op{Kind: 77}
	}
	picks := []int{5, -1, 64, 0, 900, 1, 2, 3}
	whole[len(ops)-4].Picks = picks[:4]
	before[len(ops)-4].Picks = []int{5, -1, 64, 0}
	impl.Exec(8, impl.Disk{Cap: 99999}, whole[:len(ops)])
	for i, op := range whole[:len(ops)] {
		if !sameOp(op, before[i]) {
			t.Errorf("operation %d is %s", i, shownOp(op))
		}
	}
	if whole[len(ops)].Kind != 77 || !slices.Equal(picks, []int{5, -1, 64, 0, 900, 1, 2, 3}) {
		t.Error("something is written behind a list")
	}
}

// hostileOps have numbers at the ends of int in every field.
func hostileOps(r *rand.Rand) []impl.Op {
	numbers := []int{0, 1, -1, 2, math.MinInt, math.MaxInt, 1 << 32, -1 << 32}
	pick := func() int { return numbers[r.Intn(len(numbers))] }
	var ops []impl.Op
	for range 40 {
		op := mixedOp(r)
		switch r.Intn(4) {
		case 0:
			op.N = pick()
		case 1:
			op.M = pick()
		case 2:
			op.Picks = []int{pick(), pick(), pick()}
		case 3:
			op.Kind = pick()
		}
		ops = append(ops, op, openOp())
	}
	return ops
}

func TestExecOfHostileNumbers(t *testing.T) {
	for seed := range 400 {
		r := rand.New(rand.NewSource(int64(seed)))
		w := storeWidths()[seed%4]
		wantExec(t, "hostile", w, mixedDisk(r, w), hostileOps(r))
	}
}

// programGoroutines counts those that run code of the program.
func programGoroutines() int {
	stacks := make([]byte, 1<<20)
	return strings.Count(string(stacks[:runtime.Stack(stacks, true)]), "/impl/l6_store.go")
}

// wantNoGoroutine waits a moment, since the runtime still counts a goroutine that has done all its work.
func wantNoGoroutine(t *testing.T, what string) {
	t.Helper()
	for range 1000 {
		if programGoroutines() == 0 {
			return
		}
		time.Sleep(time.Millisecond)
	}
	t.Fatalf("%s: %d goroutines are left", what, programGoroutines())
}

func TestNoGoroutineIsLeft(t *testing.T) {
	long := longSession()
	sessions := map[string][]impl.Op{
		"no operation": nil,
		"closed":       {opOf(0)},
		"open":         long[:8],
		"dead":         toMode(impl.ModeDead),
		"dead at once": {fuelOp(0), openOp(), commitOp()},
		"after death":  append(toMode(impl.ModeDead), crashOp(), openOp()),
		"all":          long,
		"too many":     make([]impl.Op, 1001),
	}
	for what, ops := range sessions {
		impl.Exec(8, impl.Disk{Cap: 99999}, ops)
		wantNoGoroutine(t, what)
		impl.Exec(0, impl.Disk{Cap: 99999}, ops)
		wantNoGoroutine(t, what+", no width")
		impl.Exec(8, impl.Disk{Now: "x"}, ops)
		wantNoGoroutine(t, what+", no disk")
	}
	for range 300 {
		impl.Exec(8, impl.Disk{Cap: 999}, toMode(impl.ModeDead))
	}
	wantNoGoroutine(t, "many sessions")
}

// Sessions know nothing of one another.
func TestSessionsSideBySide(t *testing.T) {
	var all sync.WaitGroup
	wrong := make([]bool, 16)
	for i := range wrong {
		all.Add(1)
		go func() {
			defer all.Done()
			r := rand.New(rand.NewSource(int64(i)))
			ops := append([]impl.Op{openOp()}, mixedOps(r, 200)...)
			one, two := impl.Exec(8, impl.Disk{Cap: 99999}, ops), impl.Exec(8, impl.Disk{Cap: 99999}, ops)
			wrong[i] = !slices.Equal(outcomeTexts(one), outcomeTexts(two)) || one.Mode != two.Mode || len(one.Answers) != 201
		}()
	}
	all.Wait()
	if slices.Contains(wrong, true) {
		t.Errorf("%v", wrong)
	}
}
