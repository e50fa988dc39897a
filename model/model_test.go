package model

import (
	"bytes"
	"fmt"
	"math"
	"slices"
	"strings"
	"sync"
	"testing"

	"bramble/api"
)

// pair makes a pair of this key and this value.
func pair(k string, v uint64) api.Pair { return api.Pair{Key: []byte(k), Val: v} }

// told is a text of these pairs, of long keys but their beginnings.
func told(ps ...api.Pair) string {
	var out []string
	for _, p := range ps {
		out = append(out, fmt.Sprintf("%.20q=%d", p.Key, p.Val))
	}
	return strings.Join(out, " ")
}

// alike tells whether two lists hold the same pairs.
func alike(a, b []api.Pair) bool {
	return slices.EqualFunc(a, b, func(x, y api.Pair) bool {
		return x.Val == y.Val && bytes.Equal(x.Key, y.Key)
	})
}

// holds looks whether m holds these pairs, in this order, and each way to ask
// for one tells it.
func holds(t *testing.T, m *Map, want ...api.Pair) {
	t.Helper()
	if got := m.All(); !alike(got, want) {
		t.Fatalf("P7.1: All: %s; not %s", told(got...), told(want...))
	}
	if n := m.Len(); n != len(want) {
		t.Fatalf("P7.1: Len: %d, not %d", n, len(want))
	}
	for i, p := range want {
		if v, ok := m.Get(p.Key); v != p.Val || !ok {
			t.Fatalf("P7.1: Get(%.20q): %d, %v; not %d", p.Key, v, ok, p.Val)
		}
		if n := m.Rank(p.Key); n != i {
			t.Fatalf("P7.1: Rank(%.20q): %d, not %d", p.Key, n, i)
		}
		got, ok := m.Select(i)
		tellsPair(t, "Select", got, ok, &p)
	}
}

// lacks looks whether m does not hold k.
func lacks(t *testing.T, m *Map, k string) {
	t.Helper()
	if v, ok := m.Get([]byte(k)); v != 0 || ok {
		t.Fatalf("P7.1, R2: Get(%.20q) of none: %d, %v", k, v, ok)
	}
}

// put puts a pair, and looks at what is told of the value that k had.
func put(t *testing.T, m *Map, k string, v, had uint64, there bool) {
	t.Helper()
	if got, ok, code := m.Put([]byte(k), v); got != had || ok != there || code != api.OK {
		t.Fatalf("P7.1: Put(%.20q, %d): %d, %v, code %d; not %d, %v", k, v, got, ok, code, had, there)
	}
}

// drop drops a key, and looks at what is told of the value that k had.
func drop(t *testing.T, m *Map, k string, had uint64, there bool) {
	t.Helper()
	if got, ok := m.Drop([]byte(k)); got != had || ok != there {
		t.Fatalf("P7.1: Drop(%.20q): %d, %v; not %d, %v", k, got, ok, had, there)
	}
}

// tellsPair looks whether this pair was told, or, if want is nil, none.
func tellsPair(t *testing.T, what string, got api.Pair, ok bool, want *api.Pair) {
	t.Helper()
	if want == nil {
		if ok || got.Key != nil || got.Val != 0 {
			t.Fatalf("P7.1, R2: %s of none: %s, %v", what, told(got), ok)
		}
		return
	}
	if !ok || !alike([]api.Pair{got}, []api.Pair{*want}) {
		t.Fatalf("P7.1: %s: %s, %v; not %s", what, told(got), ok, told(*want))
	}
}

// some is a map of keys that begin one another, and of others.
func some() *Map { return New(somePairs()...) }

func somePairs() []api.Pair {
	return []api.Pair{pair("", 1), pair("a", 2), pair("ab", 3), pair("abd", 4), pair("b", 5), pair("b\x00", 6), pair("\xff", 7)}
}

func TestExample(t *testing.T) {
	m := New(pair("a", 1), pair("ab", 2))
	p, ok := m.Longest([]byte("abc"))
	tellsPair(t, "Longest", p, ok, &api.Pair{Key: []byte("ab"), Val: 2})
	drop(t, m, "ab", 2, true)
	p, ok = m.Longest([]byte("abc"))
	tellsPair(t, "Longest", p, ok, &api.Pair{Key: []byte("a"), Val: 1})
}

func TestNew(t *testing.T) {
	long := strings.Repeat("x", api.MaxKey)
	for i, x := range []struct{ in, want []api.Pair }{
		{nil, nil},
		{[]api.Pair{}, nil},
		{[]api.Pair{{}}, []api.Pair{pair("", 0)}},
		{[]api.Pair{pair("a", 0)}, []api.Pair{pair("a", 0)}},
		{[]api.Pair{pair("a", 1), pair("b", 2), pair("c", 3)}, []api.Pair{pair("a", 1), pair("b", 2), pair("c", 3)}},
		{[]api.Pair{pair("c", 1), pair("b", 2), pair("a", 3)}, []api.Pair{pair("a", 3), pair("b", 2), pair("c", 1)}},
		{[]api.Pair{pair("b", 1), pair("", 2), pair("ba", 3), pair("a\xff", 4)}, []api.Pair{pair("", 2), pair("a\xff", 4), pair("b", 1), pair("ba", 3)}},
		{[]api.Pair{pair("a", 9), pair("a", 1)}, []api.Pair{pair("a", 1)}},
		{[]api.Pair{pair("b", 1), pair("a", 2), pair("b", 3), pair("a", 0), pair("b", 2)}, []api.Pair{pair("a", 0), pair("b", 2)}},
		{[]api.Pair{{Key: []byte{}, Val: 1}, {Key: nil, Val: 2}}, []api.Pair{pair("", 2)}},
		{[]api.Pair{{Key: nil, Val: 2}, {Key: []byte{}, Val: 1}}, []api.Pair{pair("", 1)}},
		{[]api.Pair{pair(long, 3)}, []api.Pair{pair(long, 3)}},
		{[]api.Pair{pair(long+"x", 3)}, nil},
		{[]api.Pair{pair("y", 1), pair(long+"x", 2), pair(long, 3), pair(long+"y", 4), pair("a", 5)}, []api.Pair{pair("a", 5), pair(long, 3), pair("y", 1)}},
		{[]api.Pair{pair("a", math.MaxUint64)}, []api.Pair{pair("a", math.MaxUint64)}},
	} {
		m := New(x.in...)
		if m == nil {
			t.Fatalf("P7.1: New, the %d-th: nil", i)
		}
		holds(t, m, x.want...)
		// It is a map like one whose pairs were put one by one.
		put(t, m, "new", 8, 0, false)
		drop(t, m, "new", 8, true)
		holds(t, m, x.want...)
	}
}

func TestNewOfManyThatComeOften(t *testing.T) {
	// Enough of each key that a sort that is not stable would mix them up.
	var ps []api.Pair
	for i := range 3000 {
		ps = append(ps, pair(string([]byte{byte(i * 7 % 10)}), uint64(i)))
	}
	m, one := New(ps...), New()
	for _, p := range ps {
		one.Put(p.Key, p.Val)
	}
	holds(t, m, one.All()...)
	if m.Len() != 10 {
		t.Fatalf("P7.1: Len: %d", m.Len())
	}
}

func TestEmpty(t *testing.T) {
	m := New()
	for range 2 {
		holds(t, m)
		for _, k := range [][]byte{nil, {}, []byte("a"), make([]byte, api.MaxKey+1)} {
			lacks(t, m, string(k))
			drop(t, m, string(k), 0, false)
			p, ok := m.Floor(k)
			tellsPair(t, "Floor", p, ok, nil)
			p, ok = m.Ceil(k)
			tellsPair(t, "Ceil", p, ok, nil)
			p, ok = m.Longest(k)
			tellsPair(t, "Longest", p, ok, nil)
			if n := m.Rank(k); n != 0 {
				t.Fatalf("P7.1: Rank(%.20q): %d", k, n)
			}
			for _, most := range []int{math.MinInt, -1, 0, 1, math.MaxInt} {
				if got := m.From(k, most); len(got) != 0 {
					t.Fatalf("P7.1: From(%.20q, %d): %s", k, most, told(got...))
				}
			}
		}
		for _, i := range []int{math.MinInt, -1, 0, 1, math.MaxInt} {
			p, ok := m.Select(i)
			tellsPair(t, "Select", p, ok, nil)
		}
		if c := m.Copy(); c == nil || c.Len() != 0 {
			t.Fatal("P7.1: Copy of a map without a pair")
		}
		// Once more: a map that has no pair any more is as one that never had.
		put(t, m, "a", 1, 0, false)
		put(t, m, "", 2, 0, false)
		drop(t, m, "a", 1, true)
		drop(t, m, "", 2, true)
	}
}

func TestPutAndDrop(t *testing.T) {
	m := New()
	put(t, m, "b", 1, 0, false)
	put(t, m, "b", 2, 1, true)
	put(t, m, "b", 0, 2, true)
	put(t, m, "b", 3, 0, true)
	holds(t, m, pair("b", 3))
	put(t, m, "a", 0, 0, false)
	put(t, m, "c", math.MaxUint64, 0, false)
	put(t, m, "", 4, 0, false)
	put(t, m, "bb", 5, 0, false)
	holds(t, m, pair("", 4), pair("a", 0), pair("b", 3), pair("bb", 5), pair("c", math.MaxUint64))
	drop(t, m, "ba", 0, false)
	drop(t, m, "d", 0, false)
	drop(t, m, "a", 0, true)
	drop(t, m, "a", 0, false)
	lacks(t, m, "a")
	drop(t, m, "c", math.MaxUint64, true)
	drop(t, m, "", 4, true)
	lacks(t, m, "")
	holds(t, m, pair("b", 3), pair("bb", 5))
	put(t, m, "a", 6, 0, false)
	holds(t, m, pair("a", 6), pair("b", 3), pair("bb", 5))
}

func TestKeyWithoutBytes(t *testing.T) {
	m := New()
	if v, ok, code := m.Put(nil, 7); v != 0 || ok || code != api.OK {
		t.Fatalf("P7.1: Put(nil): %d, %v, code %d", v, ok, code)
	}
	if v, ok, code := m.Put([]byte{}, 8); v != 7 || !ok || code != api.OK {
		t.Fatalf("P7.1: Put of the empty key: %d, %v, code %d", v, ok, code)
	}
	for _, k := range [][]byte{nil, {}} {
		if v, ok := m.Get(k); v != 8 || !ok {
			t.Fatalf("P7.1: Get: %d, %v", v, ok)
		}
		for _, ask := range []func([]byte) (api.Pair, bool){m.Floor, m.Ceil, m.Longest} {
			p, ok := ask(k)
			tellsPair(t, "of the key without bytes", p, ok, &api.Pair{Val: 8})
		}
		if n := m.Rank(k); n != 0 {
			t.Fatalf("P7.1: Rank: %d", n)
		}
		if ps := m.From(k, 1); !alike(ps, []api.Pair{pair("", 8)}) {
			t.Fatalf("P7.1: From: %s", told(ps...))
		}
	}
	if v, ok := m.Drop(nil); v != 8 || !ok || m.Len() != 0 {
		t.Fatalf("P7.1: Drop(nil): %d, %v", v, ok)
	}
}

func TestLongKeys(t *testing.T) {
	long := strings.Repeat("k", api.MaxKey)
	m := New(pair("k", 1), pair("l", 2))
	for _, k := range []string{long + "k", long + "\x00", long + long} {
		if v, ok, code := m.Put([]byte(k), 9); v != 0 || ok || code != api.ErrLong {
			t.Fatalf("P7.1: Put of %d bytes: %d, %v, code %d", len(k), v, ok, code)
		}
		lacks(t, m, k)
		drop(t, m, k, 0, false)
	}
	holds(t, m, pair("k", 1), pair("l", 2))
	put(t, m, long, 3, 0, false)
	holds(t, m, pair("k", 1), pair(long, 3), pair("l", 2))
	put(t, m, long, 4, 3, true)
	// One that is longer may be asked for: it stands somewhere too.
	more := []byte(long + "k")
	p, ok := m.Floor(more)
	tellsPair(t, "Floor", p, ok, &api.Pair{Key: []byte(long), Val: 4})
	p, ok = m.Longest(more)
	tellsPair(t, "Longest", p, ok, &api.Pair{Key: []byte(long), Val: 4})
	p, ok = m.Ceil(more)
	tellsPair(t, "Ceil", p, ok, &api.Pair{Key: []byte("l"), Val: 2})
	if n := m.Rank(more); n != 2 {
		t.Fatalf("P7.1: Rank: %d", n)
	}
	if ps := m.From(more, 9); !alike(ps, []api.Pair{pair("l", 2)}) {
		t.Fatalf("P7.1: From: %s", told(ps...))
	}
	lacks(t, m, string(more))
	drop(t, m, long, 4, true)
	lacks(t, m, long)
}

func TestNeighbours(t *testing.T) {
	m, all := some(), somePairs()
	none := -1
	for _, x := range []struct {
		k                          string
		floor, ceil, longest, rank int
	}{
		{"", 0, 0, 0, 0},
		{"\x00", 0, 1, 0, 1},
		{"a", 1, 1, 1, 1},
		{"a\x00", 1, 2, 1, 2},
		{"aa", 1, 2, 1, 2},
		{"ab", 2, 2, 2, 2},
		{"abc", 2, 3, 2, 3},
		{"abd", 3, 3, 3, 3},
		{"abdabd", 3, 4, 3, 4},
		{"abe", 3, 4, 2, 4},
		{"ac", 3, 4, 1, 4},
		{"b", 4, 4, 4, 4},
		{"b\x00", 5, 5, 5, 5},
		{"b\x00\x00", 5, 6, 5, 6},
		{"b\x01", 5, 6, 4, 6},
		{"c", 5, 6, 0, 6},
		{"\xfe\xff", 5, 6, 0, 6},
		{"\xff", 6, 6, 6, 6},
		{"\xff\xff", 6, none, 6, 7},
	} {
		k := []byte(x.k)
		for _, y := range []struct {
			what string
			ask  func([]byte) (api.Pair, bool)
			want int
		}{{"Floor", m.Floor, x.floor}, {"Ceil", m.Ceil, x.ceil}, {"Longest", m.Longest, x.longest}} {
			var want *api.Pair
			if y.want != none {
				want = &all[y.want]
			}
			p, ok := y.ask(k)
			tellsPair(t, y.what+" of "+x.k, p, ok, want)
		}
		if n := m.Rank(k); n != x.rank {
			t.Fatalf("P7.1: Rank(%q): %d, not %d", k, n, x.rank)
		}
	}
}

func TestNoNeighbours(t *testing.T) {
	m := New(pair("b", 1), pair("bb", 2), pair("d", 3))
	for _, k := range []string{"", "\x00", "a", "azzz"} {
		p, ok := m.Floor([]byte(k))
		tellsPair(t, "Floor ahead of all", p, ok, nil)
		if n := m.Rank([]byte(k)); n != 0 {
			t.Fatalf("P7.1: Rank(%q): %d", k, n)
		}
	}
	for _, k := range []string{"d\x00", "dd", "e", "\xff"} {
		p, ok := m.Ceil([]byte(k))
		tellsPair(t, "Ceil behind all", p, ok, nil)
		if n := m.Rank([]byte(k)); n != 3 {
			t.Fatalf("P7.1: Rank(%q): %d", k, n)
		}
	}
	for _, k := range []string{"", "a", "c", "cb", "e", "\xffb"} {
		p, ok := m.Longest([]byte(k))
		tellsPair(t, "Longest of none", p, ok, nil)
	}
}

func TestLongestOverManyThatAreNone(t *testing.T) {
	// Of each key that is looked at but a byte more or less is shared: the
	// beginning that is sought stands far ahead of k.
	m := New(pair("", 1))
	for i := range 3000 {
		put(t, m, strings.Repeat("b", i)+"a", 2, 0, false)
	}
	k := bytes.Repeat([]byte("b"), api.MaxKey)
	p, ok := m.Longest(k)
	tellsPair(t, "Longest", p, ok, &api.Pair{Val: 1})
	drop(t, m, "", 1, true)
	p, ok = m.Longest(k)
	tellsPair(t, "Longest", p, ok, nil)
}

func TestSelect(t *testing.T) {
	m, all := some(), somePairs()
	for i := range all {
		p, ok := m.Select(i)
		tellsPair(t, "Select", p, ok, &all[i])
	}
	for _, i := range []int{math.MinInt, -len(all), -1, len(all), len(all) + 1, math.MaxInt} {
		p, ok := m.Select(i)
		tellsPair(t, "Select", p, ok, nil)
	}
}

func TestFrom(t *testing.T) {
	all := somePairs()[1:]
	m := New(all...)
	for _, x := range []struct {
		k    string
		skip int
	}{{"", 0}, {"A", 0}, {"a", 0}, {"a\x00", 1}, {"abc", 2}, {"abd", 2}, {"abdx", 3}, {"b", 3}, {"c", 5}, {"\xff", 5}, {"\xff\x00", 6}, {"\xff\xff", 6}} {
		rest := all[x.skip:]
		for _, most := range []int{math.MinInt, -1, 0, 1, 2, len(rest) - 1, len(rest), len(rest) + 1, len(all), math.MaxInt} {
			want := rest
			if most < len(rest) {
				want = rest[:max(most, 0)]
			}
			if got := m.From([]byte(x.k), most); !alike(got, want) {
				t.Fatalf("P7.1: From(%q, %d): %s, not %s", x.k, most, told(got...), told(want...))
			}
		}
	}
}

func TestCopy(t *testing.T) {
	m := some()
	c := m.Copy()
	if c == m {
		t.Fatal("P7.1: Copy is the map itself")
	}
	holds(t, c, somePairs()...)
	put(t, c, "a", 20, 2, true)
	put(t, c, "aa", 21, 0, false)
	drop(t, c, "b", 5, true)
	holds(t, m, somePairs()...)
	drop(t, m, "", 1, true)
	put(t, m, "ab", 30, 3, true)
	put(t, m, "z", 31, 0, false)
	holds(t, c, pair("", 1), pair("a", 20), pair("aa", 21), pair("ab", 3), pair("abd", 4), pair("b\x00", 6), pair("\xff", 7))
	holds(t, m, pair("a", 2), pair("ab", 30), pair("abd", 4), pair("b", 5), pair("b\x00", 6), pair("z", 31), pair("\xff", 7))
	// No key lies in the memory of both.
	mine := m.Copy()
	for _, p := range mine.pairs {
		scribble(p.Key)
	}
	holds(t, m, pair("a", 2), pair("ab", 30), pair("abd", 4), pair("b", 5), pair("b\x00", 6), pair("z", 31), pair("\xff", 7))
	// Neither grows into the other one's spare room.
	one := New(pair("a", 1), pair("b", 2), pair("c", 3))
	other := one.Copy()
	put(t, one, "d", 4, 0, false)
	put(t, other, "e", 5, 0, false)
	holds(t, one, pair("a", 1), pair("b", 2), pair("c", 3), pair("d", 4))
	holds(t, other, pair("a", 1), pair("b", 2), pair("c", 3), pair("e", 5))
}

func TestRises(t *testing.T) {
	long := strings.Repeat("x", api.MaxKey+1)
	for i, x := range []struct {
		ps   []api.Pair
		want bool
	}{
		{nil, true},
		{[]api.Pair{}, true},
		{[]api.Pair{{}}, true},
		{[]api.Pair{pair("a", 1)}, true},
		{[]api.Pair{pair("a", 1), pair("a", 2)}, false},
		{[]api.Pair{pair("a", 2), pair("a", 1)}, false},
		{[]api.Pair{{}, {}}, false},
		{[]api.Pair{{Key: nil}, {Key: []byte{}}}, false},
		{[]api.Pair{pair("a", 2), pair("b", 1)}, true},
		{[]api.Pair{pair("b", 1), pair("a", 2)}, false},
		{[]api.Pair{pair("a", 1), pair("a\x00", 1)}, true},
		{[]api.Pair{pair("a\x00", 1), pair("a", 1)}, false},
		{[]api.Pair{pair("", 1), pair("\x00", 1), pair("\x7f", 1), pair("\x80", 1), pair("\xff", 1)}, true},
		{[]api.Pair{pair("b", 1), pair("a", 1), pair("c", 1)}, false},
		{[]api.Pair{pair("a", 1), pair("c", 1), pair("b", 1)}, false},
		{[]api.Pair{pair("a", 1), pair("b", 1), pair("b", 1)}, false},
		{[]api.Pair{pair("a", 1), pair("b", 1), pair("a", 1)}, false},
		{[]api.Pair{pair("a", 1), pair(long, 1), pair(long+"x", 1)}, true},
		{[]api.Pair{pair("a", 1), pair(long, 1), pair(long, 1)}, false},
	} {
		if got := Rises(x.ps...); got != x.want {
			t.Errorf("P7.1: Rises, the %d-th: %v", i, got)
		}
	}
	if !Rises(some().All()...) {
		t.Error("P7.1: All does not rise")
	}
}

func TestNilMap(t *testing.T) {
	var m *Map
	for _, k := range [][]byte{nil, []byte("a"), make([]byte, api.MaxKey+1)} {
		if v, ok, code := m.Put(k, 1); v != 0 || ok || code != api.ErrNil {
			t.Errorf("R3, R6: Put of %d bytes: %d, %v, code %d", len(k), v, ok, code)
		}
		for _, call := range []func([]byte) (uint64, bool){m.Get, m.Drop} {
			if v, ok := call(k); v != 0 || ok {
				t.Errorf("R3: Get or Drop: %d, %v", v, ok)
			}
		}
		for _, call := range []func([]byte) (api.Pair, bool){m.Floor, m.Ceil, m.Longest} {
			if p, ok := call(k); ok || p.Key != nil || p.Val != 0 {
				t.Errorf("R3: Floor, Ceil or Longest: %s, %v", told(p), ok)
			}
		}
		if n := m.Rank(k); n != 0 {
			t.Errorf("R3: Rank: %d", n)
		}
		for _, most := range []int{-1, 0, 3} {
			if ps := m.From(k, most); len(ps) != 0 {
				t.Errorf("R3: From: %s", told(ps...))
			}
		}
	}
	for _, i := range []int{-1, 0, 1} {
		if p, ok := m.Select(i); ok || p.Key != nil || p.Val != 0 {
			t.Errorf("R3: Select(%d): %s, %v", i, told(p), ok)
		}
	}
	if m.Len() != 0 || len(m.All()) != 0 || m.Copy() != nil {
		t.Error("R3: Len, All or Copy")
	}
}

// roomy makes a key with room behind its end, all of it dashes.
func roomy(k string) []byte {
	whole := append([]byte(k), "--------"...)
	return whole[:len(k):len(whole)]
}

// scribble writes over a key, and over all of the room behind its end.
func scribble(k []byte) {
	for i := range k[:cap(k)] {
		k[:cap(k)][i] = '#'
	}
}

// scribblePairs writes over a list, over its keys, and over the room behind
// the ends of both.
func scribblePairs(ps []api.Pair) {
	for _, p := range ps[:cap(ps)] {
		scribble(p.Key)
	}
	for i := range ps[:cap(ps)] {
		ps[:cap(ps)][i] = pair("#", 99)
	}
}

func TestHandedInIsNeitherChangedNorKept(t *testing.T) {
	// The order, a key that comes twice and one that is too long would each
	// tempt New to move what it was handed.
	long := strings.Repeat("x", api.MaxKey+1)
	in := []string{"c", long, "a", "b", "a"}
	ps := make([]api.Pair, 0, len(in)+2)
	for i, k := range in {
		ps = append(ps, api.Pair{Key: roomy(k), Val: uint64(i)})
	}
	spare := ps[:cap(ps)]
	spare[len(in)], spare[len(in)+1] = pair("s", 50), pair("t", 51)
	m := New(ps...)
	Rises(ps...)
	for i, k := range append(in, "s", "t") {
		if string(spare[i].Key) != k || i < len(in) && !bytes.HasSuffix(spare[i].Key[:len(k)+8], []byte("--------")) {
			t.Fatalf("R4: New or Rises changed the %d-th pair", i)
		}
	}
	scribblePairs(ps)
	holds(t, m, pair("a", 4), pair("b", 3), pair("c", 0))

	// Put twice: of a key that is not there, and of one that is.
	for _, call := range []func([]byte){
		func(k []byte) { m.Put(k, 7) },
		func(k []byte) { m.Put(k, 7) },
		func(k []byte) { m.Get(k) },
		func(k []byte) { m.Floor(k) },
		func(k []byte) { m.Ceil(k) },
		func(k []byte) { m.Longest(k) },
		func(k []byte) { m.Rank(k) },
		func(k []byte) { m.From(k, 2) },
	} {
		k := roomy("bb")
		call(k)
		if string(k[:cap(k)]) != "bb--------" {
			t.Fatalf("R4: a key that was handed in is %q", k[:cap(k)])
		}
		scribble(k)
		holds(t, m, pair("a", 4), pair("b", 3), pair("bb", 7), pair("c", 0))
	}
	k := roomy("bb")
	if v, ok := m.Drop(k); v != 7 || !ok || string(k[:cap(k)]) != "bb--------" {
		t.Fatalf("R4: Drop: %d, %v, %q", v, ok, k[:cap(k)])
	}
}

func TestAnswersShareNothing(t *testing.T) {
	m := some()
	for _, ask := range []func() []api.Pair{
		m.All,
		func() []api.Pair { return m.From(nil, 99) },
		func() []api.Pair { return m.From([]byte("ab"), 2) },
		func() []api.Pair { return m.Copy().All() },
	} {
		first, second := ask(), ask()
		want := New(second...).All()
		scribblePairs(first)
		if !alike(second, want) {
			t.Fatalf("R4: two answers share memory: %s", told(second...))
		}
		holds(t, m, somePairs()...)
		// Nor do the keys of one list share any.
		for i := range second {
			scribble(second[i].Key)
			if !alike(second[i+1:], want[i+1:]) {
				t.Fatalf("R4: keys of one list share memory: %s", told(second...))
			}
		}
	}
	k := roomy("abd")
	for _, ask := range []func() (api.Pair, bool){
		func() (api.Pair, bool) { return m.Floor(k) },
		func() (api.Pair, bool) { return m.Ceil(k) },
		func() (api.Pair, bool) { return m.Longest(k) },
		func() (api.Pair, bool) { return m.Select(3) },
	} {
		first, _ := ask()
		second, _ := ask()
		scribble(first.Key)
		if string(second.Key) != "abd" || string(k[:cap(k)]) != "abd--------" {
			t.Fatalf("R4: an answer shares memory: %q, %q", second.Key, k[:cap(k)])
		}
		holds(t, m, somePairs()...)
	}
}

func TestAnswersStayAsTheyWere(t *testing.T) {
	m := some()
	all, rest := m.All(), m.From([]byte("ab"), 9)
	p, _ := m.Select(2)
	for _, q := range somePairs() {
		m.Put(q.Key, 100)
	}
	for _, q := range somePairs() {
		m.Drop(q.Key)
	}
	put(t, m, "zz", 1, 0, false)
	if want := somePairs(); !alike(all, want) || !alike(rest, want[2:]) || !alike([]api.Pair{p}, want[2:3]) {
		t.Fatalf("R4: an answer changed with the map: %s; %s; %s", told(all...), told(rest...), told(p))
	}
}

func TestAskedFromSeveralGoroutines(t *testing.T) {
	m, want := some(), somePairs()
	var all sync.WaitGroup
	for range 8 {
		all.Go(func() {
			for range 50 {
				c := m.Copy()
				c.Put([]byte("own"), 1)
				p, ok := m.Longest([]byte("abdx"))
				if !alike(m.All(), want) || !alike(m.From([]byte("b"), 2), want[4:6]) || !ok || p.Val != 4 || m.Rank([]byte("b")) != 4 || c.Len() != len(want)+1 || !Rises(want...) {
					t.Error("R5: a map that does not change tells something else")
				}
			}
		})
	}
	all.Wait()
}

// naive tells what is asked by looking at every key of a Go map.
type naive map[string]uint64

func (n naive) sorted() []string {
	var ks []string
	for k := range n {
		ks = append(ks, k)
	}
	slices.Sort(ks)
	return ks
}

// pick is the pair of the last key that fits, or nil.
func (n naive) pick(fits func(string) bool) *api.Pair {
	var last *api.Pair
	for _, k := range n.sorted() {
		if fits(k) {
			last = &api.Pair{Key: []byte(k), Val: n[k]}
		}
	}
	return last
}

// asks holds all that m tells of k against n.
func (n naive) asks(t *testing.T, m *Map, k string) {
	t.Helper()
	b, ks := []byte(k), n.sorted()
	rank := 0
	for rank < len(ks) && ks[rank] < k {
		rank++
	}
	if got := m.Rank(b); got != rank {
		t.Fatalf("P7.1: Rank(%q): %d, not %d", k, got, rank)
	}
	if v, ok := m.Get(b); v != n[k] || ok != (rank < len(ks) && ks[rank] == k) {
		t.Fatalf("P7.1: Get(%q): %d, %v", k, v, ok)
	}
	p, ok := m.Floor(b)
	tellsPair(t, "Floor of "+k, p, ok, n.pick(func(s string) bool { return s <= k }))
	p, ok = m.Longest(b)
	tellsPair(t, "Longest of "+k, p, ok, n.pick(func(s string) bool { return strings.HasPrefix(k, s) }))
	p, ok = m.Ceil(b)
	if rank == len(ks) {
		tellsPair(t, "Ceil of "+k, p, ok, nil)
	} else {
		tellsPair(t, "Ceil of "+k, p, ok, &api.Pair{Key: []byte(ks[rank]), Val: n[ks[rank]]})
	}
}

func TestMixtures(t *testing.T) {
	state := uint32(7)
	next := func(below int) int {
		state = state*1664525 + 1013904223
		return int(state>>8) % below
	}
	word := func() string {
		k := make([]byte, next(5))
		for i := range k {
			k[i] = "\x00ab\xff"[next(4)]
		}
		return string(k)
	}
	for range 12 {
		m, n := New(), naive{}
		for i := range 250 {
			k := word()
			had, there := n[k]
			if next(5) < 3 {
				put(t, m, k, uint64(i), had, there)
				n[k] = uint64(i)
			} else {
				drop(t, m, k, had, there)
				delete(n, k)
			}
			n.asks(t, m, word())
		}
		var want []api.Pair
		for _, k := range n.sorted() {
			want = append(want, pair(k, n[k]))
		}
		holds(t, m, want...)
		holds(t, m.Copy(), want...)
	}
}

func TestMany(t *testing.T) {
	// In falling order, the slowest one, and in an order of its own.
	const many = 20000
	ps := make([]api.Pair, many)
	for i := range ps {
		n := many - 1 - i
		ps[i] = api.Pair{Key: []byte{byte(n >> 16), byte(n >> 8), byte(n)}, Val: uint64(n)}
	}
	m, one := New(ps...), New()
	for _, p := range ps {
		one.Put(p.Key, p.Val)
	}
	if !alike(m.All(), one.All()) || m.Len() != many || !Rises(m.All()...) {
		t.Fatal("P7.1: New or Put of many pairs")
	}
	for i := range many {
		drop(t, one, string(ps[i*7%many].Key), ps[i*7%many].Val, true)
	}
	holds(t, one)
}
