// Package trees tests what all kinds of trees promise alike, of each of them.
package trees

import (
	"bytes"
	"fmt"
	"slices"
	"strings"
	"testing"

	"bramble/api"
	"bramble/critbit"
	"bramble/model"
	"bramble/need"
	"bramble/shape"
	"bramble/ternary"
)

// tree is what a tree can do, of whatever kind it is.
type tree interface {
	Len() int
	Live() int
	Most() int
	Get(k []byte) (uint64, bool)
	Put(k []byte, v uint64) (uint64, bool, api.Errno)
	Drop(k []byte) (uint64, bool)
	Floor(k []byte) (api.Pair, bool)
	Ceil(k []byte) (api.Pair, bool)
	Longest(k []byte) (api.Pair, bool)
	Rank(k []byte) int
	Select(i int) (api.Pair, bool)
	From(k []byte, most int) []api.Pair
	Build(ps ...api.Pair) api.Errno
	Shape() []api.Cell
}

// kind is a kind of trees.
type kind struct {
	name    string
	chapter int
	tag     int
	// make is its New; it tells nil, if that does.
	make func(most int) tree
	// none is a nil pointer to such a tree.
	none tree
}

// kinds are those that are built.
func kinds() []kind {
	return []kind{
		kindOf("critbit", 12, api.Crit, critbit.New),
		kindOf("ternary", 13, api.Ternary, ternary.New),
	}
}

// kindOf is the kind of trees that this New makes.
func kindOf[T any, P interface {
	*T
	tree
}](name string, chapter int, tag int, make func(int) P) kind {
	made := func(most int) tree {
		if x := make(most); x != nil {
			return x
		}
		return nil
	}
	return kind{name, chapter, tag, made, P(nil)}
}

// each runs a test for each kind of trees.
func each(t *testing.T, test func(t *testing.T, x kind)) {
	t.Helper()
	for _, x := range kinds() {
		t.Run(x.name, func(t *testing.T) { test(t, x) })
	}
}

// fault ends a test, and names the promise of this kind's chapter.
func (x kind) fault(t *testing.T, promise int, form string, args ...any) {
	t.Helper()
	t.Fatalf("P%d.%d: %s", x.chapter, promise, fmt.Sprintf(form, args...))
}

// twin is a tree, and beside it a plain map that has what it must have.
type twin struct {
	kind
	tree  tree
	plain *model.Map
}

// twin makes a tree of so many cells, with these pairs in it, and its map.
func (x kind) twin(t *testing.T, most int, ps ...api.Pair) *twin {
	t.Helper()
	made := x.make(most)
	if made == nil {
		x.fault(t, 1, "New(%d): nil", most)
	}
	w := &twin{x, made, model.New()}
	for _, p := range ps {
		w.put(t, string(p.Key), p.Val)
	}
	return w
}

// free tells how many cells are free.
func (w *twin) free() int { return w.tree.Most() - w.tree.Live() }

// needs tells how many cells a key of so many bytes may take.
func (x kind) needs(k string) int { return need.Put(x.tag, len(k)) }

// put puts into both, looks at what is told, and tells the code.
func (w *twin) put(t *testing.T, k string, v uint64) api.Errno {
	t.Helper()
	_, there := w.plain.Get([]byte(k))
	free := w.free()
	before := w.textIf(len(k) > api.MaxKey || free < w.needs(k))
	had, ok, code := w.tree.Put([]byte(k), v)
	if code == api.ErrFull {
		if there || free >= w.needs(k) {
			w.fault(t, 3, "Put(%.20q): ErrFull of %d free cells, there: %v", k, free, there)
		}
		if had != 0 || ok {
			w.fault(t, 1, "R2: Put(%.20q): %d, %v beside ErrFull", k, had, ok)
		}
		w.unchanged(t, before, "Put: ErrFull")
		return code
	}
	want, is, wantCode := w.plain.Put([]byte(k), v)
	if had != want || ok != is || code != wantCode {
		w.fault(t, 1, "Put(%.20q): %d, %v, code %d; not %d, %v, code %d", k, had, ok, code, want, is, wantCode)
	}
	if code != api.OK {
		w.unchanged(t, before, "Put: a code")
	}
	return code
}

// drop drops a key from both, and looks at what is told.
func (w *twin) drop(t *testing.T, k string) {
	t.Helper()
	had, ok := w.tree.Drop([]byte(k))
	want, is := w.plain.Drop([]byte(k))
	if had != want || ok != is {
		w.fault(t, 1, "Drop(%.20q): %d, %v; not %d, %v", k, had, ok, want, is)
	}
}

// build builds both of these pairs, looks at what is told, and tells the code.
func (w *twin) build(t *testing.T, ps ...api.Pair) api.Errno {
	t.Helper()
	want := api.OK
	switch {
	case slices.ContainsFunc(ps, func(p api.Pair) bool { return len(p.Key) > api.MaxKey }):
		want = api.ErrLong
	case !model.Rises(ps...):
		want = api.ErrOrder
	}
	free := w.free()
	before := w.textIf(want != api.OK || free < w.needsAll(ps))
	code := w.tree.Build(ps...)
	switch {
	case want == api.OK && code == api.ErrFull:
		if free >= w.needsAll(ps) {
			w.fault(t, 3, "Build: ErrFull of %d free cells", free)
		}
	case code != want:
		w.fault(t, 1, "Build of %d: code %d, not %d", len(ps), code, want)
	}
	if code == api.OK {
		w.plain = model.New(ps...)
		return code
	}
	w.unchanged(t, before, "Build: a code")
	return code
}

// needsAll tells how many cells it may take to build of these pairs.
func (x kind) needsAll(ps []api.Pair) int {
	var longs []int
	for _, p := range ps {
		longs = append(longs, len(p.Key))
	}
	return need.Build(x.tag, longs...)
}

// unchanged looks whether the tree is as it was.
func (w *twin) unchanged(t *testing.T, before string, what string) {
	t.Helper()
	if now := w.text(); now != before {
		w.fault(t, 1, "%s, and it is another tree:\n%.500s\nit was\n%.500s", what, now, before)
	}
}

// right looks whether the tree's cells are a well-built tree's, of the plain
// map's pairs, and as many as it says.
func (w *twin) right(t *testing.T) {
	t.Helper()
	cs := w.tree.Shape()
	if !shape.Sound(w.tag, cs...) {
		w.fault(t, 2, "not sound:\n%.2000s", w.text())
	}
	if got := shape.Pairs(w.tag, cs...); !alike(got, w.plain.All()) {
		w.fault(t, 2, "the cells have %.500s; not %.500s", told(got...), told(w.plain.All()...))
	}
	if live, most := w.tree.Live(), w.tree.Most(); live != len(cs) || live > most {
		w.fault(t, 2, "Live: %d, of %d cells, Most %d", live, len(cs), most)
	}
	if n := w.tree.Len(); n != w.plain.Len() {
		w.fault(t, 1, "Len: %d, not %d", n, w.plain.Len())
	}
}

// asked looks whether the tree tells of k, and of the number n, what the plain
// map does.
func (w *twin) asked(t *testing.T, k string, n int) {
	t.Helper()
	v, ok := w.tree.Get([]byte(k))
	if want, is := w.plain.Get([]byte(k)); v != want || ok != is {
		w.fault(t, 1, "Get(%.20q): %d, %v; not %d, %v", k, v, ok, want, is)
	}
	if got, want := w.tree.Rank([]byte(k)), w.plain.Rank([]byte(k)); got != want {
		w.fault(t, 1, "Rank(%.20q): %d, not %d", k, got, want)
	}
	if got, want := w.tree.From([]byte(k), n), w.plain.From([]byte(k), n); !alike(got, want) {
		w.fault(t, 1, "From(%.20q, %d): %.500s; not %.500s", k, n, told(got...), told(want...))
	}
	for _, x := range []struct {
		what        string
		tree, plain func([]byte) (api.Pair, bool)
	}{
		{"Floor", w.tree.Floor, w.plain.Floor},
		{"Ceil", w.tree.Ceil, w.plain.Ceil},
		{"Longest", w.tree.Longest, w.plain.Longest},
	} {
		got, ok := x.tree([]byte(k))
		want, is := x.plain([]byte(k))
		w.told(t, fmt.Sprintf("%s(%.20q)", x.what, k), got, ok, want, is)
	}
	w.selects(t, n)
}

// selects looks whether the tree's n-th pair is the plain map's.
func (w *twin) selects(t *testing.T, n int) {
	t.Helper()
	got, ok := w.tree.Select(n)
	want, is := w.plain.Select(n)
	w.told(t, fmt.Sprintf("Select(%d)", n), got, ok, want, is)
}

// told looks whether a pair is the one that it must be, or none.
func (w *twin) told(t *testing.T, what string, got api.Pair, ok bool, want api.Pair, is bool) {
	t.Helper()
	if ok != is || !alike([]api.Pair{got}, []api.Pair{want}) {
		w.fault(t, 1, "%s: %s, %v; not %s, %v", what, told(got), ok, told(want), is)
	}
}

// whole looks at the tree in every way, at its own keys and at these.
func (w *twin) whole(t *testing.T, others ...string) {
	t.Helper()
	w.right(t)
	for i, p := range w.plain.All() {
		w.asked(t, string(p.Key), i)
	}
	for i, k := range others {
		w.asked(t, k, i-1)
	}
}

// text is a text of all that the tree shows.
func (w *twin) text() string {
	return fmt.Sprintf("Len %d, Live %d, Most %d\n", w.tree.Len(), w.tree.Live(), w.tree.Most()) + cellsText(w.tree.Shape())
}

// cellsText is a text of all that these cells have.
func cellsText(cs []api.Cell) string {
	var out strings.Builder
	for _, c := range cs {
		fmt.Fprintf(&out, "%d %d %d %d %d %v %d %q %v\n", c.Kind, c.At, c.Count, c.Kids, c.Byte, c.Full, c.Val, c.Key, c.Pairs)
	}
	return out.String()
}

// textIf is that text if a code may come next; else it is not asked for, as of
// great trees it is long.
func (w *twin) textIf(mayFail bool) string {
	if !mayFail {
		return ""
	}
	return w.text()
}

// pair makes a pair of this key and this value.
func pair(k string, v uint64) api.Pair { return api.Pair{Key: []byte(k), Val: v} }

// keyed makes pairs of these keys, with the values 1, 2 and so on.
func keyed(ks ...string) []api.Pair {
	var ps []api.Pair
	for i, k := range ks {
		ps = append(ps, pair(k, uint64(i+1)))
	}
	return ps
}

// told is a text of these pairs, of long keys but their beginnings.
func told(ps ...api.Pair) string {
	var out []string
	for _, p := range ps {
		out = append(out, fmt.Sprintf("%.20q=%d", p.Key, p.Val))
	}
	return "{" + strings.Join(out, " ") + "}"
}

// alike tells whether two lists hold the same pairs.
func alike(a, b []api.Pair) bool {
	return slices.EqualFunc(a, b, func(x, y api.Pair) bool {
		return x.Val == y.Val && bytes.Equal(x.Key, y.Key)
	})
}

// chance is a row of numbers that is the same in every run.
type chance uint64

// below tells the next number, from 0 up to below n.
func (c *chance) below(n int) int {
	*c = *c*6364136223846793005 + 1442695040888963407
	return int(uint64(*c) >> 33 % uint64(n))
}

// key tells a key of up to so many bytes, often the beginning of another one.
func (c *chance) key(most int) string {
	k := make([]byte, c.below(most+1))
	for i := range k {
		k[i] = []byte{0, 1, 'a', 'b', 0xfe, 0xff, byte(c.below(256))}[c.below(7)]
	}
	return string(k)
}

// rising makes pairs of up to n keys, rising.
func (c *chance) rising(n int, most int) []api.Pair {
	m := model.New()
	for i := range n {
		m.Put([]byte(c.key(most)), uint64(i+1))
	}
	return m.All()
}
