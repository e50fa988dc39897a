package critbit

import (
	"bytes"
	"fmt"
	"slices"
	"strings"
	"testing"

	"bramble/api"
	"bramble/model"
	"bramble/need"
	"bramble/shape"
)

// What all kinds of trees promise alike is tested in folder trees; here is what
// this kind promises alone, and each promise once more, in short.

// pair makes a pair of this key and this value.
func pair(k string, v uint64) api.Pair { return api.Pair{Key: []byte(k), Val: v} }

// keyed makes pairs of these keys, with the values 1, 2 and so on.
func keyed(ks ...string) []api.Pair {
	var ps []api.Pair
	for i, k := range ks {
		ps = append(ps, pair(k, uint64(i+1)))
	}
	return ps
}

// text is a text of cells.
func text(cs []api.Cell) string {
	var out []string
	for _, c := range cs {
		switch c.Kind {
		case api.CritLeaf:
			out = append(out, fmt.Sprintf("%.20q=%d", c.Key, c.Val))
		case api.CritInner:
			out = append(out, fmt.Sprintf("%d of %d", c.At, c.Count))
		default:
			out = append(out, fmt.Sprintf("kind %d", c.Kind))
		}
	}
	return strings.Join(out, ", ")
}

// same tells whether these are the same cells, in each of their fields.
func same(a, b []api.Cell) bool {
	return slices.EqualFunc(a, b, func(x, y api.Cell) bool {
		return x.Kind == y.Kind && x.At == y.At && x.Count == y.Count && x.Kids == y.Kids && x.Byte == y.Byte &&
			x.Full == y.Full && x.Val == y.Val && bytes.Equal(x.Key, y.Key) && len(x.Pairs)+len(y.Pairs) == 0
	})
}

// of makes a tree of these pairs, put one behind the other.
func of(t *testing.T, most int, ps ...api.Pair) *Tree {
	t.Helper()
	x := New(most)
	if x == nil {
		t.Fatalf("P12.1: New(%d): nil", most)
	}
	for _, p := range ps {
		if had, ok, code := x.Put(p.Key, p.Val); had != 0 || ok || code != api.OK {
			t.Fatalf("P12.1: Put(%.20q): %d, %v, code %d", p.Key, had, ok, code)
		}
	}
	return x
}

func TestExample(t *testing.T) {
	x := of(t, 2, pair("a", 1))
	if p, ok := x.Longest([]byte("ab")); !ok || string(p.Key) != "a" || p.Val != 1 {
		t.Errorf("P12.1: Longest: %q, %d, %v", p.Key, p.Val, ok)
	}
}

// The cells of some keys, as they must be.
func TestCells(t *testing.T) {
	for _, x := range []struct {
		ks   []string
		want string
	}{
		{nil, ``},
		{[]string{""}, `""=1`},
		{[]string{"a"}, `"a"=1`},
		{[]string{"a", "b"}, `7 of 2, "a"=1, "b"=2`},
		{[]string{"b", "a"}, `7 of 2, "a"=2, "b"=1`},
		{[]string{"a", ""}, `0 of 2, ""=2, "a"=1`},
		{[]string{"a", "ab"}, `9 of 2, "a"=1, "ab"=2`},
		{[]string{"a", "a\x00"}, `9 of 2, "a"=1, "a\x00"=2`},
		{[]string{"ab\x01", "ab\x00"}, `26 of 2, "ab\x00"=2, "ab\x01"=1`},
		{[]string{"\xff", "\x7f"}, `1 of 2, "\x7f"=2, "\xff"=1`},
		{[]string{"", "a", "ab", "abc"}, `0 of 4, ""=1, 9 of 3, "a"=2, 18 of 2, "ab"=3, "abc"=4`},
		{[]string{"abc", "b", "ab", "ac"}, `7 of 4, 17 of 3, 18 of 2, "ab"=3, "abc"=1, "ac"=4, "b"=2`},
	} {
		y := of(t, 100, keyed(x.ks...)...)
		if got := text(y.Shape()); got != x.want {
			t.Errorf("P12.2: of %q: %s; not %s", x.ks, got, x.want)
		}
		if live := y.Live(); live != max(0, 2*len(x.ks)-1) {
			t.Errorf("P12.2: of %q: %d cells are live", x.ks, live)
		}
		for _, c := range y.Shape() {
			want := api.Cell{Kind: api.CritInner, At: c.At, Kids: 2, Count: c.Count}
			if c.Kind == api.CritLeaf {
				want = api.Cell{Kind: api.CritLeaf, Key: c.Key, Val: c.Val, Count: 1}
			}
			if !same([]api.Cell{c}, []api.Cell{want}) {
				t.Errorf("P12.2, R2: a cell %v, not %v", c, want)
			}
		}
	}
}

// Each inner cell has as many keys as it says, behind each Put and each Drop.
func TestCounts(t *testing.T) {
	x := New(100)
	for i, s := range []struct{ do, want string }{
		{"+abc", `"abc"=0`},
		{"+ab", `18 of 2, "ab"=1, "abc"=0`},
		{"+b", `7 of 3, 18 of 2, "ab"=1, "abc"=0, "b"=2`},
		{"+ac", `7 of 4, 17 of 3, 18 of 2, "ab"=1, "abc"=0, "ac"=3, "b"=2`},
		{"+ab", `7 of 4, 17 of 3, 18 of 2, "ab"=4, "abc"=0, "ac"=3, "b"=2`},
		{"-a", `7 of 4, 17 of 3, 18 of 2, "ab"=4, "abc"=0, "ac"=3, "b"=2`},
		{"-abcd", `7 of 4, 17 of 3, 18 of 2, "ab"=4, "abc"=0, "ac"=3, "b"=2`},
		{"-ab", `7 of 3, 17 of 2, "abc"=0, "ac"=3, "b"=2`},
		{"-b", `17 of 2, "abc"=0, "ac"=3`},
		{"-abc", `"ac"=3`},
		{"-ac", ``},
		{"-ac", ``},
	} {
		if k := []byte(s.do[1:]); s.do[0] == '+' {
			x.Put(k, uint64(i))
		} else {
			x.Drop(k)
		}
		if got := text(x.Shape()); got != s.want {
			t.Fatalf("P12.2: behind %s: %s; not %s", s.do, got, s.want)
		}
	}
}

// Of the same pairs the cells are the same, in whatever order they were put,
// whatever was dropped meanwhile, and if they were built at once.
func TestSameCells(t *testing.T) {
	c := chance(5)
	for range 60 {
		m := model.New()
		for i := range c.below(40) {
			m.Put(c.key(), uint64(i))
		}
		all := m.All()
		want := of(t, 100, all...).Shape()
		falling := slices.Clone(all)
		slices.Reverse(falling)
		if got := of(t, 100, falling...).Shape(); !same(got, want) {
			t.Fatalf("P12.2: put from the last one on: %s; not %s", text(got), text(want))
		}
		built := New(100)
		if code := built.Build(all...); code != api.OK {
			t.Fatalf("P12.3: Build: code %d", code)
		}
		if got := built.Shape(); !same(got, want) {
			t.Fatalf("P12.2: built: %s; not %s", text(got), text(want))
		}
		mixed := New(1000)
		for i := range 60 {
			mixed.Put(c.key(), uint64(i))
		}
		for _, i := range c.order(len(all)) {
			mixed.Put(all[i].Key, all[i].Val)
			mixed.Drop(c.key())
		}
		for _, p := range mixed.From(nil, 1000) {
			if _, ok := m.Get(p.Key); !ok {
				mixed.Drop(p.Key)
			}
		}
		for _, p := range all {
			mixed.Put(p.Key, p.Val)
		}
		if got := mixed.Shape(); !same(got, want) {
			t.Fatalf("P12.2: put and dropped: %s; not %s", text(got), text(want))
		}
	}
}

// Of n keys there are 2n-1 cells: ErrFull is told where a next one would make
// them more than there may be.
func TestFull(t *testing.T) {
	ks := []string{"", "a", "ab", "b", "b\x00"}
	for n := 1; n < len(ks); n++ {
		x := of(t, 2*n, keyed(ks[:n]...)...)
		before := x.Shape()
		if had, ok, code := x.Put([]byte(ks[n]), 1); had != 0 || ok || code != api.ErrFull {
			t.Errorf("P12.3: Put of key %d, one cell is free: %d, %v, code %d", n, had, ok, code)
		}
		if had, ok, code := x.Put([]byte(ks[n-1]), uint64(n)); had != uint64(n) || !ok || code != api.OK {
			t.Errorf("P12.3: Put of a key that is there, one cell is free: %d, %v, code %d", had, ok, code)
		}
		if got := x.Shape(); !same(got, before) || x.Live() > x.Most() {
			t.Errorf("P12.1: ErrFull, and it is another tree: %s", text(got))
		}
		if x := of(t, 2*n-1+need.Put(api.Crit, len(ks[n])), keyed(ks[:n+1]...)...); x.Live() != x.Most() {
			t.Errorf("P12.2: %d cells are live, of %d", x.Live(), x.Most())
		}
		if code := New(2*n - 2).Build(keyed(ks[:n]...)...); code != api.ErrFull {
			t.Errorf("P12.3: Build of %d keys, %d cells: code %d", n, 2*n-2, code)
		}
		if code := New(2 * n).Build(keyed(ks[:n]...)...); code != api.OK {
			t.Errorf("P12.3: Build of %d keys, %d cells: code %d", n, 2*n, code)
		}
	}
}

// As many keys as there may be cells for: they are built, and asked, at once.
func TestMostCells(t *testing.T) {
	const keys = api.MaxCells / 2
	var ps []api.Pair
	for i := range keys {
		ps = append(ps, api.Pair{Key: []byte{byte(i >> 16), byte(i >> 8), byte(i)}, Val: uint64(i)})
	}
	x := New(api.MaxCells)
	if code := x.Build(ps...); code != api.OK || x.Live() != 2*keys-1 {
		t.Fatalf("P12.3: Build: code %d, %d cells are live", code, x.Live())
	}
	if _, _, code := x.Put([]byte("one more"), 1); code != api.ErrFull {
		t.Errorf("P12.3: Put of one more: code %d", code)
	}
	for i := 0; i < keys; i += 1013 {
		if p, ok := x.Select(i); !ok || p.Val != uint64(i) || x.Rank(ps[i].Key) != i {
			t.Fatalf("P12.1: Select(%d): %d, %v; Rank: %d", i, p.Val, ok, x.Rank(ps[i].Key))
		}
	}
}

// A long run: what is told is what a plain map tells, the cells are well built.
func TestRun(t *testing.T) {
	c := chance(1)
	x, m := New(60), model.New()
	for i := range 3000 {
		k := c.key()
		if c.below(2) == 0 {
			had, ok := x.Drop(k)
			if want, is := m.Drop(k); had != want || ok != is {
				t.Fatalf("P12.1: Drop(%q): %d, %v; not %d, %v", k, had, ok, want, is)
			}
		} else if had, ok, code := x.Put(k, uint64(i)); code == api.ErrFull {
			if _, there := m.Get(k); there || x.Most()-x.Live() >= need.Put(api.Crit, len(k)) {
				t.Fatalf("P12.3: Put(%q): ErrFull, %d of %d cells are taken, there: %v", k, x.Live(), x.Most(), there)
			}
		} else if want, is, _ := m.Put(k, uint64(i)); had != want || ok != is || code != api.OK {
			t.Fatalf("P12.1: Put(%q): %d, %v, code %d; not %d, %v", k, had, ok, code, want, is)
		}
		cs := x.Shape()
		if got := shape.Pairs(api.Crit, cs...); !shape.Sound(api.Crit, cs...) || !alike(got, m.All()) || x.Live() != len(cs) {
			t.Fatalf("P12.2: %s, %d cells are live", text(cs), x.Live())
		}
		k = c.key()
		if !alike(x.From(k, 5), m.From(k, 5)) || x.Rank(k) != m.Rank(k) || x.Len() != m.Len() {
			t.Fatalf("P12.1: of %q: Rank %d, not %d", k, x.Rank(k), m.Rank(k))
		}
	}
}

// alike tells whether two lists hold the same pairs.
func alike(a, b []api.Pair) bool {
	return slices.EqualFunc(a, b, func(x, y api.Pair) bool {
		return x.Val == y.Val && bytes.Equal(x.Key, y.Key)
	})
}

// chance is a row of numbers that is the same in every run.
type chance uint64

// below tells the next number, from 0 up to below n.
func (c *chance) below(n int) int {
	*c = *c*6364136223846793005 + 1442695040888963407
	return int(uint64(*c) >> 33 % uint64(n))
}

// key tells a key of up to four bytes.
func (c *chance) key() []byte {
	k := make([]byte, c.below(5))
	for i := range k {
		k[i] = []byte{0, 'a', 'b', 0xff}[c.below(4)]
	}
	return k
}

// order tells the numbers from 0 up to below n, in some order.
func (c *chance) order(n int) []int {
	var all []int
	for i := range n {
		all = slices.Insert(all, c.below(i+1), i)
	}
	return all
}
