package ternary

import (
	"bytes"
	"fmt"
	"slices"
	"strings"
	"testing"

	"bramble/api"
	"bramble/model"
	"bramble/shape"
)

// What all kinds of trees promise alike is tested in folder trees; here is what
// this kind promises alone, and its cells, written out.

// pair makes a pair of this key and this value.
func pair(k string, v uint64) api.Pair { return api.Pair{Key: []byte(k), Val: v} }

// keyed makes pairs of these keys, with the values 1, 2 and so on.
func keyed(ks ...string) []api.Pair {
	var ps []api.Pair
	for i, k := range ks {
		ps = append(ps, pair(k, uint64(i+1)))
	}
	return ps
}

// text is a text of cells: of a node the bytes ahead and its own one, its
// children, how many keys, and the value, if it has one.
func text(cs []api.Cell) string {
	var out []string
	for _, c := range cs {
		switch c.Kind {
		case api.TernEmpty:
			out = append(out, fmt.Sprintf("bare=%d", c.Val))
		case api.TernNode:
			kids := ""
			for side, name := range []string{"l", "m", "g"} {
				if c.Kids>>side&1 == 1 {
					kids += name
				}
			}
			s := fmt.Sprintf("%d%.1q%s%d", c.At, []byte{c.Byte}, kids, c.Count)
			if c.Full {
				s += fmt.Sprintf("=%d", c.Val)
			}
			out = append(out, s)
		default:
			out = append(out, fmt.Sprintf("kind %d", c.Kind))
		}
	}
	return strings.ReplaceAll(strings.Join(out, " "), `"`, "'")
}

// of makes a tree of these pairs, put one behind the other.
func of(t *testing.T, most int, ps ...api.Pair) *Tree {
	t.Helper()
	x := New(most)
	if x == nil {
		t.Fatalf("P13.1: New(%d): nil", most)
	}
	for _, p := range ps {
		if had, ok, code := x.Put(p.Key, p.Val); had != 0 || ok || code != api.OK {
			t.Fatalf("P13.1: Put(%.20q): %d, %v, code %d", p.Key, had, ok, code)
		}
	}
	return x
}

// built makes a tree of these pairs at once.
func built(t *testing.T, ps ...api.Pair) *Tree {
	t.Helper()
	x := New(api.MaxCells)
	if code := x.Build(ps...); code != api.OK {
		t.Fatalf("P13.3: Build of %d: code %d", len(ps), code)
	}
	return x
}

func TestExample(t *testing.T) {
	x := of(t, 1, pair("a", 1))
	if p, ok := x.Longest([]byte("ab")); !ok || string(p.Key) != "a" || p.Val != 1 {
		t.Errorf("P13.1: Longest: %q, %d, %v", p.Key, p.Val, ok)
	}
}

// The cells of some keys, put in this order.
func TestCells(t *testing.T) {
	for _, x := range []struct {
		ks   []string
		want string
	}{
		{nil, ``},
		{[]string{""}, `bare=1`},
		{[]string{"a"}, `0'a'1=1`},
		{[]string{"a", ""}, `bare=2 0'a'1=1`},
		{[]string{"a", "b"}, `0'a'g2=1 0'b'1=2`},
		{[]string{"b", "a"}, `0'b'l2=1 0'a'1=2`},
		{[]string{"b", "c", "a"}, `0'b'lg3=1 0'a'1=3 0'c'1=2`},
		{[]string{"abc"}, `0'a'm1 1'b'm1 2'c'1=1`},
		{[]string{"abc", "ab"}, `0'a'm2 1'b'm2=2 2'c'1=1`},
		{[]string{"ab", "abc"}, `0'a'm2 1'b'm2=1 2'c'1=2`},
		{[]string{"ab", "ad", "ac", "b"}, `0'a'mg4 1'b'g3=1 1'd'l2=2 1'c'1=3 0'b'1=4`},
		{[]string{"\xff\x00", "\x80", "\x00\xff"}, `0'\xff'lm3 0'\x80'l2=2 0'\x00'm1 1'\xff'1=3 1'\x00'1=1`},
	} {
		y := of(t, 100, keyed(x.ks...)...)
		if got := text(y.Shape()); got != x.want {
			t.Errorf("P13.2: of %q: %s; not %s", x.ks, got, x.want)
		}
		if live := y.Live(); live != len(y.Shape()) {
			t.Errorf("P13.2: of %q: %d cells are live, %d are shown", x.ks, live, len(y.Shape()))
		}
		for _, c := range y.Shape() {
			if len(c.Key)+len(c.Pairs) > 0 || c.Kind == api.TernEmpty && (c.At != 0 || c.Count != 1 || c.Kids != 0 || c.Byte != 0 || c.Full) {
				t.Errorf("P13.2, R2: a cell %v", c)
			}
		}
	}
}

// What is left behind each Put and each Drop: a node without a key and without
// a middle child goes, and one of its alternatives comes in its stead.
func TestDropped(t *testing.T) {
	for _, x := range []struct{ put, drop, want string }{
		{"m", "m", ``},
		{"abc", "abc", ``},
		{"abc ab", "abc", `0'a'm1 1'b'1=0`},
		{"abc ab", "ab", `0'a'm1 1'b'm1 2'c'1=0`},
		{"abc ab", "a", `0'a'm2 1'b'm2=0 2'c'1=0`},
		{"abc a", "abc", `0'a'1=0`},
		{"abc abd", "abc", `0'a'm1 1'b'm1 2'd'1=0`},
		{"abd abc", "abd", `0'a'm1 1'b'm1 2'c'1=0`},
		{"abc abd", "abd", `0'a'm1 1'b'm1 2'c'1=0`},
		{"abc b", "abc", `0'b'1=0`},
		{"b abc", "abc", `0'b'1=0`},
		{"b abc aab", "abc", `0'b'l2=0 0'a'm1 1'a'm1 2'b'1=0`},
		{"b ax ay c", "b", `0'c'l3=0 0'a'm2 1'x'g2=0 1'y'1=0`},
		{"b a d c", "b", `0'c'lg3=0 0'a'1=0 0'd'1=0`},
		{"b a f d e c", "b", `0'c'lg5=0 0'a'1=0 0'f'l3=0 0'd'g2=0 0'e'1=0`},
		{"b a f cx cy d", "b", `0'c'lmg5 0'a'1=0 1'x'g2=0 1'y'1=0 0'f'l2=0 0'd'1=0`},
		{"b a f e c d", "b", `0'c'lg5=0 0'a'1=0 0'f'l3=0 0'e'l2=0 0'd'1=0`},
		{"b a c e d f", "b", `0'c'lg5=0 0'a'1=0 0'e'lg3=0 0'd'1=0 0'f'1=0`},
		{"kb ka kf kd ke kc", "kb", `0'k'm5 1'c'lg5=0 1'a'1=0 1'f'l3=0 1'd'g2=0 1'e'1=0`},
	} {
		y := New(100)
		for _, k := range strings.Fields(x.put) {
			y.Put([]byte(k), 0)
		}
		y.Drop([]byte(x.drop))
		if got := text(y.Shape()); got != x.want || y.Live() != len(y.Shape()) {
			t.Errorf("P13.2: of %s behind the Drop of %s: %s; not %s; %d are live", x.put, x.drop, got, x.want, y.Live())
		}
	}
}

// choices tells how deep the deepest node lies among its alternatives: how many
// nodes are on the way, without middle steps.
func choices(cs []api.Cell) int {
	deepest := 0
	// Those yet to come, the next one last: what its depth is.
	left := []int{1}
	for _, c := range cs {
		if c.Kind == api.TernEmpty {
			continue
		}
		deep := left[len(left)-1]
		left = left[:len(left)-1]
		deepest = max(deepest, deep)
		for side, d := range []int{deep + 1, 1, deep + 1} {
			if c.Kids>>(2-side)&1 == 1 {
				left = append(left, d)
			}
		}
	}
	return deepest
}

// Whatever is built, no choice of bytes lies deeper than 9.
func TestChoices(t *testing.T) {
	for n := 1; n <= 256; n++ {
		for what, nth := range map[string]func(i int) string{
			"the first bytes":          func(i int) string { return string([]byte{byte(i)}) },
			"the last bytes":           func(i int) string { return string([]byte{byte(256 - n + i)}) },
			"bytes all over":           func(i int) string { return string([]byte{byte(i * 256 / n)}) },
			"behind some bytes":        func(i int) string { return "way" + string([]byte{byte(i)}) },
			"ahead of some bytes":      func(i int) string { return string([]byte{byte(i)}) + "way" },
			"between bytes of lengths": func(i int) string { return "w" + string([]byte{byte(i)}) + strings.Repeat("y", i%5) },
		} {
			var ks []string
			for i := range n {
				ks = append(ks, nth(i))
			}
			cs := built(t, keyed(ks...)...).Shape()
			if !shape.Sound(api.Ternary, cs...) {
				t.Fatalf("P13.2: %s, %d: not sound", what, n)
			}
			if deep := choices(cs); deep > 9 {
				t.Fatalf("P13.2: %s, %d: a choice that is %d deep", what, n, deep)
			}
		}
	}
	var all []api.Pair
	for i := range 1 << 16 {
		all = append(all, api.Pair{Key: []byte{byte(i >> 8), byte(i)}})
	}
	if deep := choices(built(t, all...).Shape()); deep > 9 {
		t.Fatalf("P13.2: two bytes: a choice that is %d deep", deep)
	}
}

// Of 256 bytes that were put rising a choice is 256 deep: so is what this test
// looks at, and what is built over it is not.
func TestChoicesAnew(t *testing.T) {
	x := New(1000)
	var ps []api.Pair
	for b := range 256 {
		ps = append(ps, api.Pair{Key: []byte{'k', byte(b)}})
		x.Put(ps[b].Key, 1)
	}
	if deep := choices(x.Shape()); deep != 256 {
		t.Fatalf("the test's own look: %d", deep)
	}
	if code := x.Build(ps...); code != api.OK || choices(x.Shape()) > 9 {
		t.Errorf("P13.2: Build: code %d, a choice that is %d deep", code, choices(x.Shape()))
	}
}

// A key takes a cell for each byte that it has not in common with others:
// ErrFull is told where these are more than are free.
func TestFull(t *testing.T) {
	ks := []string{"", "a", "abcd", "abxyz", "b", "ab"}
	takes := []int{1, 1, 3, 3, 1, 0}
	live := 0
	for n, k := range ks {
		if takes[n] > 0 {
			x := of(t, live+takes[n]-1, keyed(ks[:n]...)...)
			before := text(x.Shape())
			if had, ok, code := x.Put([]byte(k), 1); had != 0 || ok || code != api.ErrFull {
				t.Errorf("P13.3: Put(%q), %d cells are free: %d, %v, code %d", k, takes[n]-1, had, ok, code)
			}
			for i, there := range ks[:n] {
				if had, ok, code := x.Put([]byte(there), uint64(i+1)); had != uint64(i+1) || !ok || code != api.OK {
					t.Errorf("P13.3: Put(%q), which is there: %d, %v, code %d", there, had, ok, code)
				}
			}
			if got := text(x.Shape()); got != before || x.Live() > x.Most() {
				t.Errorf("P13.1: ErrFull, and it is another tree: %s; not %s", got, before)
			}
		}
		live += takes[n]
		x := of(t, live, keyed(ks[:n+1]...)...)
		if x.Live() != live {
			t.Errorf("P13.2: of %q: %d cells are live, not %d", ks[:n+1], x.Live(), live)
		}
		m := model.New(keyed(ks[:n+1]...)...)
		if code := New(live - 1).Build(m.All()...); code != api.ErrFull {
			t.Errorf("P13.3: Build of %d keys, %d cells: code %d", n+1, live-1, code)
		}
		if code := x.Build(m.All()...); code != api.OK || x.Live() != live {
			t.Errorf("P13.3: Build of %d keys, %d cells: code %d, %d are live", n+1, live, code, x.Live())
		}
	}
}

// As many cells as there may be: they are filled, and asked, at once.
func TestMostCells(t *testing.T) {
	var ps []api.Pair
	// Keys that have nothing in common, of one byte fewer than there are cells.
	for i := range 16 {
		ps = append(ps, api.Pair{Key: bytes.Repeat([]byte{byte(16 * i)}, api.MaxKey), Val: uint64(i)})
	}
	for i := range 15 {
		ps = append(ps, api.Pair{Key: []byte{byte(i + 241)}, Val: uint64(16 + i)})
	}
	slices.SortFunc(ps, func(a, b api.Pair) int { return bytes.Compare(a.Key, b.Key) })
	x := built(t, ps...)
	m := model.New(ps...)
	if x.Live() != api.MaxCells-1 {
		t.Fatalf("P13.2: %d cells are live", x.Live())
	}
	if _, _, code := x.Put([]byte("ab"), 1); code != api.ErrFull {
		t.Errorf("P13.3: Put of a key that takes two cells: code %d", code)
	}
	if _, _, code := x.Put([]byte("a"), 1); code != api.OK || x.Live() != api.MaxCells {
		t.Errorf("P13.3: Put of a key that takes one cell: code %d", code)
	}
	x.Drop([]byte("a"))
	for i, p := range ps {
		q, ok := x.Select(i)
		if !ok || !bytes.Equal(q.Key, p.Key) || q.Val != p.Val || x.Rank(p.Key) != m.Rank(p.Key) {
			t.Fatalf("P13.1: Select(%d): %d bytes, %d, %v; Rank: %d", i, len(q.Key), q.Val, ok, x.Rank(p.Key))
		}
	}
	for _, p := range ps {
		x.Drop(p.Key)
	}
	if x.Len()+x.Live() != 0 {
		t.Errorf("P13.2: %d cells are live, of no keys", x.Live())
	}
}
