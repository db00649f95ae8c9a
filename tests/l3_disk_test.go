package tests

import (
	"math"
	"slices"
	"strconv"
	"strings"
	"testing"

	"loop.example/s03048/impl"
)

func shownDisk(d impl.Disk) string {
	return strings.Join([]string{
		"stable", strconv.Itoa(len(d.Stable)), "now", strconv.Itoa(len(d.Now)), "cap", strconv.Itoa(d.Cap)}, " ")
}

// noDisks break each condition of a valid disk alone, by as little as there is.
func noDisks() map[string]impl.Disk {
	full := mixedText(impl.MaxDisk + 1)
	return map[string]impl.Disk{
		"stable is another byte":           {Stable: "x", Now: "y", Cap: 5},
		"stable is longer":                 {Stable: "yy", Now: "y", Cap: 5},
		"stable and nothing now":           {Stable: "y", Cap: 5},
		"stable differs in its last byte":  {Stable: "abX", Now: "abcd", Cap: 5},
		"stable differs in its first byte": {Stable: "Xbc", Now: "abcd", Cap: 5},
		"stable is the end of now":         {Stable: "cd", Now: "abcd", Cap: 5},
		"stable of the same size":          {Stable: "abcX", Now: "abcd", Cap: 5},
		"stable has a zero more":           {Stable: "abcd\x00", Now: "abcd", Cap: 5},
		"now is one byte too long":         {Stable: "abcd", Now: "abcde", Cap: 4},
		"now and no room":                  {Now: "a"},
		"now and stable and no room":       {Stable: "a", Now: "a"},
		"no room by one":                   {Cap: -1},
		"no room at all":                   {Cap: math.MinInt},
		"cap one too great":                {Cap: impl.MaxDisk + 1},
		"cap much too great":               {Stable: "a", Now: "ab", Cap: math.MaxInt},
		"cap at two to the 32":             {Stable: "a", Now: "ab", Cap: 1 << 32},
		"now and cap one too great":        {Stable: "", Now: full, Cap: impl.MaxDisk + 1},
		"now too long for the greatest":    {Stable: "", Now: full, Cap: impl.MaxDisk},
	}
}

func TestStepsOfWhatIsNoDisk(t *testing.T) {
	for what, d := range noDisks() {
		for _, s := range []string{"", "x", mixedText(100)} {
			if got, code := impl.DiskAppend(d, s); got != (impl.Disk{}) || code != impl.DiskInvalid {
				t.Errorf("%s: DiskAppend of %d bytes gives %s and %d", what, len(s), shownDisk(got), code)
			}
		}
		if got, code := impl.DiskSync(d); got != (impl.Disk{}) || code != impl.DiskInvalid {
			t.Errorf("%s: DiskSync gives %s and %d", what, shownDisk(got), code)
		}
		for _, n := range []int{-1, 0, 1, len(d.Stable), len(d.Now), len(d.Now) + 1} {
			if got, code := impl.DiskCut(d, n); got != (impl.Disk{}) || code != impl.DiskInvalid {
				t.Errorf("%s: DiskCut at %d gives %s and %d", what, n, shownDisk(got), code)
			}
		}
		for _, picks := range [][]int{nil, {0}, {1}, {64, 64}} {
			if got := impl.DiskCrash(d, picks); got != (impl.Disk{}) {
				t.Errorf("%s: DiskCrash with %v gives %s", what, picks, shownDisk(got))
			}
		}
	}
}

// goodDisks are at the edges of what is valid.
func goodDisks() []impl.Disk {
	full := mixedText(impl.MaxDisk)
	return []impl.Disk{
		{},
		{Cap: 1},
		{Cap: impl.MaxDisk},
		{Now: "a", Cap: 1},
		{Stable: "a", Now: "a", Cap: 1},
		{Stable: "a", Now: "ab", Cap: 2},
		{Now: "abcd", Cap: 10},
		{Stable: "ab", Now: "abcd", Cap: 10},
		{Stable: "abcd", Now: "abcd", Cap: 10},
		{Stable: zeros(3), Now: zeros(5), Cap: 5},
		{Stable: mixedText(200)[:64], Now: mixedText(200), Cap: 300},
		{Stable: full[:5], Now: full, Cap: impl.MaxDisk},
		{Stable: full, Now: full, Cap: impl.MaxDisk},
	}
}

func TestAppendUpToTheCap(t *testing.T) {
	for _, d := range goodDisks() {
		free := d.Cap - len(d.Now)
		for _, size := range []int{0, 1, free - 1, free} {
			if size < 0 || size > free {
				continue
			}
			s := mixedText(size)
			want := impl.Disk{Stable: d.Stable, Now: d.Now + s, Cap: d.Cap}
			if got, code := impl.DiskAppend(d, s); got != want || code != impl.DiskOk {
				t.Errorf("%s and %d bytes: %s, code %d", shownDisk(d), size, shownDisk(got), code)
			}
		}
		for _, size := range []int{free + 1, free + 2, free + 64, 2*free + 1, impl.MaxDisk + 1} {
			if got, code := impl.DiskAppend(d, mixedText(size)); got != d || code != impl.DiskFull {
				t.Errorf("%s and %d bytes: %s, code %d", shownDisk(d), size, shownDisk(got), code)
			}
		}
	}
}

func TestAppendInPieces(t *testing.T) {
	text := mixedText(150)
	d := impl.Disk{Cap: 150}
	for i, size := range []int{1, 0, 62, 1, 64, 22} {
		next, code := impl.DiskAppend(d, text[len(d.Now):len(d.Now)+size])
		if code != impl.DiskOk || next.Stable != "" || next.Now != text[:len(d.Now)+size] || next.Cap != 150 {
			t.Fatalf("piece %d: %s, code %d", i, shownDisk(next), code)
		}
		d = next
	}
	if got, code := impl.DiskAppend(d, "x"); got != d || code != impl.DiskFull {
		t.Errorf("a byte too many: %s, code %d", shownDisk(got), code)
	}
}

func TestSyncMakesAllSafe(t *testing.T) {
	for _, d := range goodDisks() {
		want := impl.Disk{Stable: d.Now, Now: d.Now, Cap: d.Cap}
		if got, code := impl.DiskSync(d); got != want || code != impl.DiskOk {
			t.Errorf("%s: %s, code %d", shownDisk(d), shownDisk(got), code)
		}
	}
}

func TestCutAtEveryPlace(t *testing.T) {
	for _, d := range goodDisks() {
		for _, n := range []int{0, 1, len(d.Stable) - 1, len(d.Stable), len(d.Stable) + 1, len(d.Now) - 1, len(d.Now)} {
			if n < 0 || n > len(d.Now) {
				continue
			}
			want := impl.Disk{Stable: d.Now[:n], Now: d.Now[:n], Cap: d.Cap}
			if got, code := impl.DiskCut(d, n); got != want || code != impl.DiskOk {
				t.Errorf("%s at %d: %s, code %d", shownDisk(d), n, shownDisk(got), code)
			}
		}
		for _, n := range []int{-1, -2, -64, math.MinInt, len(d.Now) + 1, len(d.Now) + 64, 1 << 32, 1<<32 + 1, math.MaxInt} {
			if got, code := impl.DiskCut(d, n); got != (impl.Disk{}) || code != impl.DiskInvalid {
				t.Errorf("%s at %d: %s, code %d", shownDisk(d), n, shownDisk(got), code)
			}
		}
	}
}

// documentCrash says of each byte whether it is on the disk.
func documentCrash(d impl.Disk, picks []int) impl.Disk {
	left := []byte(d.Stable)
	last := len(d.Stable)
	for at := len(d.Stable); at < len(d.Now); at++ {
		open := at/64 - len(d.Stable)/64
		begin := max(at/64*64, len(d.Stable))
		if open < len(picks) && at-begin < picks[open] {
			left = append(left, d.Now[at])
			last = at + 1
		} else {
			left = append(left, 0)
		}
	}
	return impl.Disk{Stable: string(left[:last]), Now: string(left[:last]), Cap: d.Cap}
}

// brightText has no zero, so that a byte that is there and a hole are told apart.
func brightText(size int) string {
	out := make([]byte, size)
	for i := range out {
		out[i] = byte(1 + i%251)
	}
	return string(out)
}

func crashSizes() []int {
	return []int{0, 1, 2, 62, 63, 64, 65, 100, 126, 127, 128, 129, 191, 192, 193, 250}
}

func openDisks() []impl.Disk {
	var out []impl.Disk
	for _, now := range crashSizes() {
		for _, stable := range crashSizes() {
			if stable <= now {
				text := brightText(now)
				out = append(out, impl.Disk{Stable: text[:stable], Now: text, Cap: now + stable})
			}
		}
	}
	return out
}

func openSectors(d impl.Disk) int {
	if len(d.Stable) == len(d.Now) {
		return 0
	}
	return (len(d.Now)-1)/64 - len(d.Stable)/64 + 1
}

func TestCrashWithNothingPickedLeavesStable(t *testing.T) {
	for _, d := range openDisks() {
		for _, picks := range [][]int{nil, {}, {0}, {-1}, {math.MinInt}, {0, 0, 0, 0, 0, 0}, {-5, 0, -64, math.MinInt, -1, 0, 0}} {
			want := impl.Disk{Stable: d.Stable, Now: d.Stable, Cap: d.Cap}
			if got := impl.DiskCrash(d, picks); got != want {
				t.Errorf("%s with %v: %s", shownDisk(d), picks, shownDisk(got))
			}
		}
	}
}

func TestCrashWithEverythingPickedLeavesNow(t *testing.T) {
	for _, d := range openDisks() {
		for _, pick := range []int{64, 65, 1000, math.MaxInt} {
			for more := range 3 {
				picks := slices.Repeat([]int{pick}, openSectors(d)+more)
				want := impl.Disk{Stable: d.Now, Now: d.Now, Cap: d.Cap}
				if got := impl.DiskCrash(d, picks); got != want {
					t.Errorf("%s with %v: %s", shownDisk(d), picks, shownDisk(got))
				}
			}
		}
	}
}

// The part of an open sector may be shorter than a sector at both ends.
func TestCrashWithExactlyThePartsPicked(t *testing.T) {
	for _, d := range openDisks() {
		var picks []int
		for from := len(d.Stable); from < len(d.Now); {
			end := min((from/64+1)*64, len(d.Now))
			picks = append(picks, end-from)
			from = end
		}
		if len(picks) != openSectors(d) {
			t.Fatalf("%s: %d parts, want %d", shownDisk(d), len(picks), openSectors(d))
		}
		if got := impl.DiskCrash(d, picks); got.Now != d.Now || got.Stable != d.Now {
			t.Errorf("%s with %v: %s", shownDisk(d), picks, shownDisk(got))
		}
		for j := range picks {
			less := slices.Clone(picks)
			less[j]--
			if got, want := impl.DiskCrash(d, less), documentCrash(d, less); got != want || got.Now == d.Now {
				t.Errorf("%s with %v: %q, want %q", shownDisk(d), less, got.Now, want.Now)
			}
		}
	}
}

// pickLists has all lists of up to four picks out of a few.
func pickLists() [][]int {
	lists := [][]int{nil}
	for from := 0; len(lists[from]) < 4; from++ {
		for _, pick := range []int{-1, 0, 1, 36, 63, 64, 65} {
			lists = append(lists, append(slices.Clone(lists[from]), pick))
		}
	}
	return lists
}

func TestCrashWithManyPicks(t *testing.T) {
	lists := pickLists()
	for _, d := range openDisks() {
		for _, picks := range lists {
			got := impl.DiskCrash(d, picks)
			if want := documentCrash(d, picks); got != want {
				t.Fatalf("%s with %v: %q, want %q", shownDisk(d), picks, got.Now, want.Now)
			}
			wantPromiseFour(t, d, got)
		}
	}
}

func wantPromiseFour(t *testing.T, d impl.Disk, got impl.Disk) {
	t.Helper()
	if got.Stable != got.Now || got.Cap != d.Cap || !strings.HasPrefix(got.Now, d.Stable) || len(got.Now) > len(d.Now) {
		t.Fatalf("%s: %s", shownDisk(d), shownDisk(got))
	}
	for at := range len(got.Now) {
		if got.Now[at] != 0 && got.Now[at] != d.Now[at] {
			t.Fatalf("%s: byte %d is %d, and was %d", shownDisk(d), at, got.Now[at], d.Now[at])
		}
	}
}

func TestCrashLeavesNothingBehindTheLastByte(t *testing.T) {
	now := brightText(300)
	d := impl.Disk{Stable: now[:70], Now: now, Cap: 300}
	known := []struct {
		picks []int
		want  string
	}{
		{[]int{0, 0, 0, 0}, now[:70]},
		{[]int{1, 0, 0, 0}, now[:71]},
		{[]int{57, 0, 0, 0}, now[:127]},
		{[]int{58, 0, 0, 0}, now[:128]},
		{[]int{59, 0, 0, 0}, now[:128]},
		{[]int{0, 1, 0, 0}, now[:70] + zeros(58) + now[128:129]},
		{[]int{0, 64, 0, 0}, now[:70] + zeros(58) + now[128:192]},
		{[]int{0, 63, 0, -7}, now[:70] + zeros(58) + now[128:191]},
		{[]int{5, 63, 2, 0}, now[:75] + zeros(53) + now[128:191] + zeros(1) + now[192:194]},
		{[]int{0, 0, 0, 1}, now[:70] + zeros(186) + now[256:257]},
		{[]int{0, 0, 0, 44}, now[:70] + zeros(186) + now[256:300]},
		{[]int{0, 0, 0, 45}, now[:70] + zeros(186) + now[256:300]},
		{[]int{0, 0, 0, 0, 64}, now[:70]},
		{[]int{0, 0, 1, 0, 64}, now[:70] + zeros(122) + now[192:193]},
	}
	for _, k := range known {
		if got := impl.DiskCrash(d, k.picks); got.Now != k.want || got.Stable != k.want || got.Cap != 300 {
			t.Errorf("%v: %q, want %q", k.picks, got.Now, k.want)
		}
	}
}

// A zero that was written is a byte like any other.
func TestCrashKeepsZerosThatWereWritten(t *testing.T) {
	d := impl.Disk{Stable: "a\x00", Now: "a\x00" + zeros(200), Cap: 1000}
	for _, k := range []struct {
		picks []int
		size  int
	}{{nil, 2}, {[]int{0}, 2}, {[]int{3}, 5}, {[]int{62}, 64}, {[]int{0, 5}, 69}, {[]int{0, 0, 0, 10}, 202}} {
		if got := impl.DiskCrash(d, k.picks); got.Now != d.Now[:k.size] || got.Stable != got.Now {
			t.Errorf("%v: %s, want %d bytes", k.picks, shownDisk(got), k.size)
		}
	}
}

func TestCrashOfAGreatDisk(t *testing.T) {
	now := mixedText(impl.MaxDisk)
	d := impl.Disk{Stable: now[:1000], Now: now, Cap: impl.MaxDisk}
	picks := make([]int, 20000)
	for j := range picks {
		picks[j] = j*7%130 - 30
	}
	for _, some := range [][]int{picks, picks[:16384], picks[:100], nil} {
		if got, want := impl.DiskCrash(d, some), documentCrash(d, some); got != want {
			t.Errorf("%d picks: %s, want %s", len(some), shownDisk(got), shownDisk(want))
		}
	}
}

func TestCrashTwiceIsCrashOnce(t *testing.T) {
	for _, d := range openDisks() {
		once := impl.DiskCrash(d, []int{3, 0, 70, 1})
		if again := impl.DiskCrash(once, []int{64, 0, 1}); again != once {
			t.Errorf("%s: %s, then %s", shownDisk(d), shownDisk(once), shownDisk(again))
		}
	}
}

func TestStepsAnswerNewMemory(t *testing.T) {
	// Built at run time, so that Stable is a piece of Now and no part is a constant.
	now := strings.Repeat("ab", 60)
	d := impl.Disk{Stable: now[:50], Now: now, Cap: 200}
	more := strings.Repeat("xy", 10)
	appended, _ := impl.DiskAppend(d, more)
	alone, _ := impl.DiskAppend(impl.Disk{Cap: 200}, more)
	nothing, _ := impl.DiskAppend(d, "")
	full, _ := impl.DiskAppend(d, strings.Repeat("z", 100))
	synced, _ := impl.DiskSync(d)
	cut, _ := impl.DiskCut(d, 60)
	whole, _ := impl.DiskCut(d, 120)
	crashed := impl.DiskCrash(d, []int{5, 70})
	bare := impl.DiskCrash(d, nil)
	for i, got := range []impl.Disk{appended, alone, nothing, full, synced, cut, whole, crashed, bare} {
		for _, s := range []string{got.Stable, got.Now} {
			if sharesMemory(s, now) || sharesMemory(s, more) {
				t.Errorf("disk %d shares memory with an argument", i)
			}
		}
	}
}

func TestCrashWritesNothingIntoItsPicks(t *testing.T) {
	d := impl.Disk{Now: brightText(200), Cap: 200}
	picks := []int{-4, 900, 3, 4, 5}
	impl.DiskCrash(d, picks)
	if !slices.Equal(picks, []int{-4, 900, 3, 4, 5}) {
		t.Errorf("%v", picks)
	}
}
