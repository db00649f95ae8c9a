package impl

import (
	"slices"
	"strconv"
	"testing"
)

// opened8 is a process of width 8 on a disk with nothing on it, which the test stops.
func opened8(t *testing.T) *process {
	p := &process{width: 8, drive: startDrive(Disk{Cap: MaxDisk})}
	t.Cleanup(p.drive.stop)
	if a := p.answer(Op{Kind: OpOpen}); a.Code != StoreOk {
		t.Fatalf("code %d", a.Code)
	}
	return p
}

func wantStillOpen(t *testing.T, what string, p *process, encs int, roots int) {
	t.Helper()
	if d := p.drive.look(); d != (Disk{Cap: MaxDisk}) || p.mode != ModeOpen || len(p.pool.encs) != encs || len(p.roots) != roots {
		t.Errorf("%s: %d bytes, mode %d, %d encodings, %d roots", what, len(d.Now), p.mode, len(p.pool.encs), len(p.roots))
	}
}

// No disk has room for so many encodings, so that no session shows it.
func TestCommitIntoAPoolThatWouldBeTooLarge(t *testing.T) {
	p := opened8(t)
	for i := range maxEncs - 1 {
		p.pool.add("filling" + strconv.Itoa(i))
	}
	p.answer(Op{Kind: OpPut, Key: "a"})
	p.answer(Op{Kind: OpPut, Key: "b"})
	if a := p.answer(Op{Kind: OpCommit}); a.Code != StoreFull || a.N != 0 || a.Val != "" {
		t.Errorf("%v", a)
	}
	wantStillOpen(t, "one too many", p, maxEncs-1, 0)
	p.answer(Op{Kind: OpDel, Key: "b"})
	if a := p.answer(Op{Kind: OpCommit}); a.Code != StoreOk || a.N != 1 || len(p.pool.encs) != maxEncs {
		t.Errorf("%v with %d encodings", a, len(p.pool.encs))
	}
}

func TestCommitBehindTheLastVersion(t *testing.T) {
	p := opened8(t)
	p.roots = make([]string, MaxVersion)
	if a := p.answer(Op{Kind: OpCommit}); a.Code != StoreFull || a.N != 0 {
		t.Errorf("%v", a)
	}
	wantStillOpen(t, "the last version", p, 0, MaxVersion)
	p.roots = p.roots[1:]
	if a := p.answer(Op{Kind: OpCommit}); a.Code != StoreOk || a.N != MaxVersion {
		t.Errorf("%v", a)
	}
}

func TestStepsAreCountedByTheDevice(t *testing.T) {
	d := &device{disk: Disk{Cap: 10}, steps: 2}
	add := func(d Disk) (Disk, int) { return DiskAppend(d, "x") }
	for _, want := range []bool{true, true, false, false} {
		if got := d.step(add); got != want {
			t.Errorf("%t with %d left", got, d.steps)
		}
	}
	if d.disk.Now != "xx" || d.steps != 0 {
		t.Errorf("%q, %d left", d.disk.Now, d.steps)
	}
	d.steps = forEver
	for range 3 {
		d.step(DiskSync)
	}
	if d.disk.Stable != "xx" || d.steps != forEver {
		t.Errorf("%q, %d left", d.disk.Stable, d.steps)
	}
}

// The drive goes on behind a step that was not made: only the process is dead.
func TestADriveAnswersAfterADeath(t *testing.T) {
	v := startDrive(Disk{Now: "text", Cap: 10})
	defer v.stop()
	v.setSteps(1)
	if !v.step(DiskSync) || v.step(DiskSync) || v.step(DiskSync) {
		t.Error("one step was left")
	}
	if d := v.look(); d != safeDisk("text", 10) {
		t.Errorf("%v", d)
	}
	v.crash(nil)
	if !v.step(func(d Disk) (Disk, int) { return DiskCut(d, 2) }) || v.look() != safeDisk("te", 10) {
		t.Error("no step after a crash")
	}
}

// A drive that has stopped has closed its line; were it not waited for, some of these would still be open.
func TestStopWaitsForTheGoroutine(t *testing.T) {
	var open []int
	for i := range 2000 {
		v := startDrive(Disk{Cap: 10})
		if i%2 == 0 {
			v.setSteps(0)
			v.step(DiskSync)
		}
		v.stop()
		select {
		case <-v.disks:
		default:
			open = append(open, i)
		}
	}
	if len(open) > 0 {
		t.Errorf("%d are open, the first is %d", len(open), slices.Min(open))
	}
}
