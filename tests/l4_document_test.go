package tests

import (
	"math/rand"
	"slices"
	"strconv"
	"testing"

	"loop.example/s03048/impl"
)

// What stands here goes by the words of the document's chapter 4, with no function of that chapter.

// keySums are kept, since the tests ask for the same keys again and again.
var keySums = map[string]string{}

func keySum(key string) string {
	if _, ok := keySums[key]; !ok {
		keySums[key] = librarySum(key)
	}
	return keySums[key]
}

func documentHigher(a string, b string) bool {
	if keySum(a) == keySum(b) {
		return a < b
	}
	return keySum(a) > keySum(b)
}

func documentIsMap(ps []impl.Pair) bool {
	for i, p := range ps {
		if len(p.Key) < 1 || len(p.Key) > 256 || len(p.Val) > 2000 || i > 0 && p.Key <= ps[i-1].Key {
			return false
		}
	}
	return len(ps) <= 500
}

// documentTree gives the encodings in the order of Save, and the root.
func documentTree(ps []impl.Pair, w int) ([]string, string) {
	if len(ps) == 0 {
		return nil, ""
	}
	top := 0
	for i := range ps {
		if documentHigher(ps[i].Key, ps[top].Key) {
			top = i
		}
	}
	lesser, left := documentTree(ps[:top], w)
	greater, right := documentTree(ps[top+1:], w)
	enc := documentNode(impl.Node{Key: ps[top].Key, Val: ps[top].Val, Left: left, Right: right})
	return append(slices.Concat(lesser, greater), enc), encHash(enc, w)
}

func documentValidPool(p impl.Pool) bool {
	return p.W >= 1 && p.W <= 32 && len(p.Encs) <= 20000
}

// firstOnes has for each hash the first encoding.
func firstOnes(p impl.Pool) map[string]string {
	first := map[string]string{}
	for _, enc := range p.Encs {
		if hash := encHash(enc, p.W); !has(first, hash) {
			first[hash] = enc
		}
	}
	return first
}

func has(first map[string]string, hash string) bool {
	_, ok := first[hash]
	return ok
}

func documentSave(p impl.Pool, ps []impl.Pair) impl.Saved {
	if !documentValidPool(p) || !documentIsMap(ps) {
		return impl.Saved{Code: impl.TreeBad}
	}
	encs, root := documentTree(ps, p.W)
	pool := slices.Clone(p.Encs)
	firsts := firstOnes(p)
	for _, enc := range encs {
		first, found := firsts[encHash(enc, p.W)]
		if found && first != enc {
			return impl.Saved{Code: impl.TreeCollision, Pool: p, A: "N" + first, B: "N" + enc}
		}
		if found {
			continue
		}
		if len(pool) == 20000 {
			return impl.Saved{Code: impl.TreeBad}
		}
		pool = append(pool, enc)
		firsts[encHash(enc, p.W)] = enc
	}
	return impl.Saved{Pool: impl.Pool{W: p.W, Encs: pool}, Root: root}
}

// placeAbove is a node above, with the side of it on which one stands.
type placeAbove struct {
	key    string
	inLeft bool
}

// documentLoading is a Load or, if it has bounds, a Range.
type documentLoading struct {
	pool    impl.Pool
	first   map[string]string
	bounded bool
	lo, hi  string
	count   int
	code    int
	pairs   []impl.Pair
}

func (d *documentLoading) canNot(above []placeAbove) bool {
	if d.hi != "" && !(d.hi > d.lo) {
		return true
	}
	for _, a := range above {
		if a.inLeft && !(a.key > d.lo) || !a.inLeft && d.hi != "" && !(a.key < d.hi) {
			return true
		}
	}
	return false
}

func (d *documentLoading) wrong(hash string, above []placeAbove) (impl.Node, int) {
	enc, found := d.first[hash]
	if !found {
		return impl.Node{}, impl.TreeMissing
	}
	n, ok := impl.DecodeNode(enc, d.pool.W)
	if !ok {
		return impl.Node{}, impl.TreeCorrupt
	}
	for _, a := range above {
		if a.inLeft && !(n.Key < a.key) || !a.inLeft && !(n.Key > a.key) {
			return impl.Node{}, impl.TreeCorrupt
		}
	}
	if len(above) > 0 && !documentHigher(above[len(above)-1].key, n.Key) {
		return impl.Node{}, impl.TreeCorrupt
	}
	d.count++
	if d.count == 501 {
		return impl.Node{}, impl.TreeMany
	}
	return n, impl.TreeOk
}

func (d *documentLoading) visit(hash string, above []placeAbove) {
	if d.code != impl.TreeOk || hash == "" || d.bounded && d.canNot(above) {
		return
	}
	n, code := d.wrong(hash, above)
	if code != impl.TreeOk {
		d.code = code
		return
	}
	if !d.bounded || d.lo <= n.Key && (d.hi == "" || n.Key < d.hi) {
		d.pairs = append(d.pairs, impl.Pair{Key: n.Key, Val: n.Val})
	}
	d.visit(n.Left, append(slices.Clone(above), placeAbove{n.Key, true}))
	d.visit(n.Right, append(slices.Clone(above), placeAbove{n.Key, false}))
}

func (d *documentLoading) answer(root string) ([]impl.Pair, int) {
	if !documentValidPool(d.pool) || root != "" && len(root) != d.pool.W {
		return nil, impl.TreeBad
	}
	d.first = firstOnes(d.pool)
	d.visit(root, nil)
	if d.code != impl.TreeOk {
		return nil, d.code
	}
	slices.SortFunc(d.pairs, byKey)
	return d.pairs, impl.TreeOk
}

func byKey(a impl.Pair, b impl.Pair) int {
	if a.Key == b.Key {
		return 0
	}
	if a.Key < b.Key {
		return -1
	}
	return 1
}

func documentLoad(p impl.Pool, root string) ([]impl.Pair, int) {
	return (&documentLoading{pool: p}).answer(root)
}

func documentRange(p impl.Pool, root string, lo string, hi string) ([]impl.Pair, int) {
	return (&documentLoading{pool: p, bounded: true, lo: lo, hi: hi}).answer(root)
}

// without and with are maps with one key changed.
func without(ps []impl.Pair, key string) []impl.Pair {
	return slices.DeleteFunc(slices.Clone(ps), func(p impl.Pair) bool { return p.Key == key })
}

func with(ps []impl.Pair, key string, val string) []impl.Pair {
	out := append(without(ps, key), impl.Pair{Key: key, Val: val})
	slices.SortFunc(out, byKey)
	return out
}

func valueIn(ps []impl.Pair, key string) (string, bool) {
	for _, p := range ps {
		if p.Key == key {
			return p.Val, true
		}
	}
	return "", false
}

func documentPut(p impl.Pool, root string, key string, val string) impl.Saved {
	ps, code := documentLoad(p, root)
	if code != impl.TreeOk {
		return impl.Saved{Code: code}
	}
	if len(key) < 1 || len(key) > 256 || len(val) > 2000 {
		return impl.Saved{Code: impl.TreeBad}
	}
	if _, found := valueIn(ps, key); len(ps) == 500 && !found {
		return impl.Saved{Code: impl.TreeMany}
	}
	return documentSave(p, with(ps, key, val))
}

func documentDel(p impl.Pool, root string, key string) impl.Saved {
	ps, code := documentLoad(p, root)
	if code != impl.TreeOk {
		return impl.Saved{Code: code}
	}
	if len(key) < 1 || len(key) > 256 {
		return impl.Saved{Code: impl.TreeBad}
	}
	return documentSave(p, without(ps, key))
}

func documentDiff(p impl.Pool, a string, b string) ([]impl.Change, int) {
	if a == b {
		return nil, impl.TreeOk
	}
	had, code := documentLoad(p, a)
	if code != impl.TreeOk {
		return nil, code
	}
	has, code := documentLoad(p, b)
	if code != impl.TreeOk {
		return nil, code
	}
	keys := []string{}
	for _, pair := range slices.Concat(had, has) {
		keys = append(keys, pair.Key)
	}
	slices.Sort(keys)
	var changes []impl.Change
	for _, key := range slices.Compact(keys) {
		c := impl.Change{Key: key}
		c.Old, c.Had = valueIn(had, key)
		c.New, c.Has = valueIn(has, key)
		if c.Had != c.Has || c.Old != c.New {
			changes = append(changes, c)
		}
	}
	return changes, impl.TreeOk
}

// topOf is the place of the highest key.
func topOf(ps []impl.Pair) int {
	top := 0
	for i := range ps {
		if documentHigher(ps[i].Key, ps[top].Key) {
			top = i
		}
	}
	return top
}

func documentClash(ps []impl.Pair, qs []impl.Pair, w int) (string, string, bool) {
	if !documentIsMap(ps) || !documentIsMap(qs) || w < 1 || w > 32 || slices.Equal(ps, qs) {
		return "", "", false
	}
	one, root := documentTree(ps, w)
	two, other := documentTree(qs, w)
	if root != other {
		return "", "", false
	}
	if a, b := one[len(one)-1], two[len(two)-1]; a != b {
		return "N" + a, "N" + b, true
	}
	at, to := topOf(ps), topOf(qs)
	if !slices.Equal(ps[:at], qs[:to]) {
		return documentClash(ps[:at], qs[:to], w)
	}
	return documentClash(ps[at+1:], qs[to+1:], w)
}

func sameSaved(a impl.Saved, b impl.Saved) bool {
	return a.Code == b.Code && a.Pool.W == b.Pool.W && slices.Equal(a.Pool.Encs, b.Pool.Encs) &&
		a.Root == b.Root && a.A == b.A && a.B == b.B
}

func shownSaved(s impl.Saved) string {
	return "code " + strconv.Itoa(s.Code) + ", width " + strconv.Itoa(s.Pool.W) + ", " + strconv.Itoa(len(s.Pool.Encs)) +
		" encodings, root " + strconv.Quote(s.Root) + ", A " + strconv.Quote(s.A) + ", B " + strconv.Quote(s.B)
}

func wantSaved(t *testing.T, what string, got impl.Saved, want impl.Saved) {
	t.Helper()
	if !sameSaved(got, want) {
		t.Errorf("%s: %.400s\nwant %.400s", what, shownSaved(got), shownSaved(want))
	}
}

func wantPairs(t *testing.T, what string, got []impl.Pair, code int, want []impl.Pair, wantCode int) {
	t.Helper()
	if !slices.Equal(got, want) || code != wantCode {
		t.Errorf("%s: %.200q, code %d\nwant %.200q, code %d", what, got, code, want, wantCode)
	}
}

func wantLoad(t *testing.T, what string, p impl.Pool, root string, want []impl.Pair, wantCode int) {
	t.Helper()
	got, code := impl.Load(p, root)
	wantPairs(t, what, got, code, want, wantCode)
}

func wantRange(t *testing.T, what string, p impl.Pool, root string, lo string, hi string, want []impl.Pair, wantCode int) {
	t.Helper()
	got, code := impl.Range(p, root, lo, hi)
	wantPairs(t, what+" from "+strconv.Quote(lo)+" to "+strconv.Quote(hi), got, code, want, wantCode)
}

// pairsFrom takes keys and values by turns.
func pairsFrom(texts ...string) []impl.Pair {
	var ps []impl.Pair
	for i := 0; i < len(texts); i += 2 {
		ps = append(ps, impl.Pair{Key: texts[i], Val: texts[i+1]})
	}
	return ps
}

// numbered is a map of so many pairs.
func numbered(count int) []impl.Pair {
	var ps []impl.Pair
	for i := range count {
		key := strconv.Itoa(10000 + i*7)
		ps = append(ps, impl.Pair{Key: key, Val: "v" + key})
	}
	return ps
}

// mixedMap has keys out of a short list and sometimes others, so that maps have many keys in common.
func mixedMap(r *rand.Rand, most int) []impl.Pair {
	var ps []impl.Pair
	for range r.Intn(most + 1) {
		ps = with(ps, mixedKey(r), mixedVal(r))
	}
	return ps
}

func mixedKey(r *rand.Rand) string {
	switch r.Intn(12) {
	case 0:
		return string([]byte{byte(r.Intn(256))})
	case 1:
		return string([]byte{byte('a' + r.Intn(5)), 0})
	case 2:
		return mixedText(1 + r.Intn(256))
	}
	return string([]byte{byte('a' + r.Intn(20))})
}

func mixedVal(r *rand.Rand) string {
	switch r.Intn(6) {
	case 0:
		return ""
	case 1:
		return mixedText(r.Intn(2001))
	}
	return strconv.Itoa(r.Intn(4))
}

func poolWith(w int, encs ...string) impl.Pool {
	return impl.Pool{W: w, Encs: encs}
}
