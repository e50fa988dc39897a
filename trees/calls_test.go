package trees

import (
	"math"
	"slices"
	"strings"
	"testing"

	"bramble/api"
)

// plenty is more cells than a small tree takes.
const plenty = 5000

// someKeys begin one another, end with zero bytes, or differ in a bit alone.
func someKeys() []string {
	return []string{"", "\x00", "\x00\x00", "a", "a\x00", "a\x00\x00", "ab", "abc", "abcd", "abd", "b", "b\x7f", "b\x80", "c", "\xfe", "\xff", "\xff\xff"}
}

// askedKeys are some of which trees of someKeys are asked, too.
func askedKeys() []string {
	ks := someKeys()
	for _, k := range someKeys() {
		for _, end := range []string{"\x00", "\x01", "`", "b", "\xff"} {
			ks = append(ks, k+end)
		}
	}
	return ks
}

// numbers are those of which Select and From are asked.
func numbers(n int) []int {
	return []int{math.MinInt, -n, -1, 0, 1, n / 2, n - 1, n, n + 1, math.MaxInt}
}

func TestExample(t *testing.T) {
	each(t, func(t *testing.T, x kind) {
		w := x.twin(t, plenty)
		w.put(t, "a", 1)
		if p, ok := w.tree.Longest([]byte("ab")); !ok || string(p.Key) != "a" || p.Val != 1 {
			x.fault(t, 1, "Longest: %s, %v", told(p), ok)
		}
		w.put(t, "ab", 2)
		if p, ok := w.tree.Longest([]byte("abc")); !ok || string(p.Key) != "ab" || p.Val != 2 {
			x.fault(t, 1, "Longest: %s, %v", told(p), ok)
		}
		w.drop(t, "ab")
		if p, ok := w.tree.Longest([]byte("abc")); !ok || string(p.Key) != "a" || p.Val != 1 {
			x.fault(t, 1, "Longest: %s, %v", told(p), ok)
		}
		w.put(t, "", 3)
		if p, ok := w.tree.Select(0); !ok || len(p.Key) != 0 || p.Val != 3 {
			x.fault(t, 1, "Select(0): %s, %v", told(p), ok)
		}
	})
}

func TestNil(t *testing.T) {
	each(t, func(t *testing.T, x kind) {
		for _, k := range [][]byte{nil, {}, []byte("a"), make([]byte, api.MaxKey+1)} {
			if v, ok, code := x.none.Put(k, 1); v != 0 || ok || code != api.ErrNil {
				x.fault(t, 1, "R3: Put: %d, %v, code %d", v, ok, code)
			}
			for what, f := range map[string]func([]byte) (uint64, bool){"Get": x.none.Get, "Drop": x.none.Drop} {
				if v, ok := f(k); v != 0 || ok {
					x.fault(t, 1, "R3: %s: %d, %v", what, v, ok)
				}
			}
			for what, f := range map[string]func([]byte) (api.Pair, bool){"Floor": x.none.Floor, "Ceil": x.none.Ceil, "Longest": x.none.Longest} {
				if p, ok := f(k); ok || len(p.Key) != 0 || p.Val != 0 {
					x.fault(t, 1, "R3: %s: %s, %v", what, told(p), ok)
				}
			}
			if n := x.none.Rank(k); n != 0 {
				x.fault(t, 1, "R3: Rank: %d", n)
			}
			for _, most := range numbers(3) {
				if ps := x.none.From(k, most); len(ps) != 0 {
					x.fault(t, 1, "R3: From: %s", told(ps...))
				}
			}
		}
		for _, i := range numbers(3) {
			if p, ok := x.none.Select(i); ok || len(p.Key) != 0 || p.Val != 0 {
				x.fault(t, 1, "R3: Select(%d): %s, %v", i, told(p), ok)
			}
		}
		for _, ps := range [][]api.Pair{nil, keyed("a"), keyed("b", "a"), {{Key: make([]byte, api.MaxKey+1)}}} {
			if code := x.none.Build(ps...); code != api.ErrNil {
				x.fault(t, 1, "R3: Build: code %d", code)
			}
		}
		if n := x.none.Len() + x.none.Live() + x.none.Most() + len(x.none.Shape()); n != 0 {
			x.fault(t, 2, "R3: Len, Live, Most, Shape: %d", n)
		}
	})
}

func TestNew(t *testing.T) {
	each(t, func(t *testing.T, x kind) {
		for _, most := range []int{math.MinInt, -api.MaxCells, -2, -1, api.MaxCells + 1, 1 << 32, math.MaxInt} {
			if x.make(most) != nil {
				x.fault(t, 1, "New(%d): not nil", most)
			}
		}
		for _, most := range []int{0, 1, 2, 3, 100, api.MaxCells - 1, api.MaxCells} {
			w := x.twin(t, most)
			if n := w.tree.Most(); n != most {
				x.fault(t, 2, "New(%d): Most: %d", most, n)
			}
			w.whole(t, "", "a")
		}
	})
}

// Of trees of no keys, of one, of two, of many: whatever is asked, of keys that
// are there, ahead of all, behind all, between, and of numbers that are none.
func TestQuestions(t *testing.T) {
	each(t, func(t *testing.T, x kind) {
		for _, ks := range [][]string{{}, {""}, {"a"}, {"\xff\xff"}, {"", "\x00"}, {"a", "ab"}, {"a", "b"}, {"abc", "abd"}, {"a\x00", "a"}, someKeys()} {
			w := x.twin(t, plenty, keyed(ks...)...)
			w.right(t)
			for _, k := range askedKeys() {
				for _, n := range numbers(len(ks)) {
					w.asked(t, k, n)
				}
			}
			for n := range len(ks) {
				w.asked(t, "", n)
				w.asked(t, ks[n], n)
			}
		}
	})
}

func TestPut(t *testing.T) {
	each(t, func(t *testing.T, x kind) {
		w := x.twin(t, plenty)
		for round := range 3 {
			for i, k := range someKeys() {
				if code := w.put(t, k, uint64(100*round+i)); code != api.OK {
					x.fault(t, 3, "Put(%q): code %d", k, code)
				}
				w.whole(t)
			}
		}
		// The greatest value, and the least one, are like any other.
		for _, v := range []uint64{math.MaxUint64, 0, 1 << 63} {
			w.put(t, "ab", v)
			w.whole(t)
		}
		w.put(t, strings.Repeat("a", api.MaxKey+1), 1)
		w.whole(t, askedKeys()...)
	})
}

func TestDrop(t *testing.T) {
	each(t, func(t *testing.T, x kind) {
		w := x.twin(t, plenty, keyed(someKeys()...)...)
		for _, k := range askedKeys() {
			w.drop(t, k)
			w.whole(t, k)
			w.drop(t, k)
		}
		if n := w.tree.Live(); n != 0 {
			x.fault(t, 2, "%d cells are live, of no keys", n)
		}
	})
}

// Whatever the order in which all keys go, no cell is taken then, and as many
// go in again.
func TestDropOrders(t *testing.T) {
	each(t, func(t *testing.T, x kind) {
		for _, ks := range [][]string{{"", "a", "ab", "abc", "b"}, {"ab\x00", "ab\x01", "ab\x80", "ac", "ab\xff"}, {"k", "ka", "kaa", "kaaa", "kb"}} {
			for order := range orders(len(ks)) {
				w := x.twin(t, x.needsAll(keyed(ks...)), keyed(ks...)...)
				for round := range 2 {
					for _, i := range order {
						w.drop(t, ks[i])
						w.right(t)
						w.asked(t, ks[i], i)
					}
					if n := w.tree.Live() + len(w.tree.Shape()); n != 0 {
						x.fault(t, 2, "%d cells are live, of no keys", n)
					}
					for _, i := range order {
						if code := w.put(t, ks[i], uint64(round+i)); code != api.OK {
							x.fault(t, 3, "Put(%q), round %d: code %d", ks[i], round, code)
						}
					}
					w.right(t)
				}
			}
		}
	})
}

// A choice among all bytes there are, put and dropped in unlike orders, alone
// and behind some bytes; of a choice among few, too.
func TestAllBytes(t *testing.T) {
	each(t, func(t *testing.T, x kind) {
		for _, n := range []int{1, 2, 5, 17, 49, 255, 256} {
			for what, at := range map[string]func(i int) int{
				"rising":  func(i int) int { return i },
				"falling": func(i int) int { return n - 1 - i },
				"mixed":   func(i int) int { return i * 101 % n },
			} {
				for _, way := range []string{"", "way"} {
					nth := func(i int) string { return way + string([]byte{byte(at(i))}) }
					w := x.twin(t, plenty, keyed("", "wax", "waz", "wayz")...)
					for i := range n {
						if code := w.put(t, nth(i), uint64(i)); code != api.OK {
							x.fault(t, 3, "%s: Put(%q): code %d", what, nth(i), code)
						}
						w.right(t)
					}
					w.whole(t, way, way+"\x00\x00", way+"\xff\xff")
					if code := w.build(t, w.plain.All()...); code != api.OK {
						x.fault(t, 3, "%s: Build: code %d", what, code)
					}
					w.whole(t, way)
					for i := range n {
						w.drop(t, nth(i))
						w.right(t)
						w.asked(t, nth(i), i)
					}
				}
			}
		}
	})
}

// orders are all orders of the numbers from 0 up to below n.
func orders(n int) func(yield func([]int) bool) {
	var rest func(some []int, yield func([]int) bool) bool
	rest = func(some []int, yield func([]int) bool) bool {
		if len(some) == n {
			return yield(some)
		}
		for i := range n {
			if !slices.Contains(some, i) && !rest(append(slices.Clone(some), i), yield) {
				return false
			}
		}
		return true
	}
	return func(yield func([]int) bool) { rest(nil, yield) }
}
