package shape

import (
	"bytes"
	"fmt"
	"math"
	"math/bits"
	"slices"
	"strings"
	"testing"

	"bramble/api"
)

// far are numbers far outside of what a cell may say.
var far = []int{math.MinInt, math.MinInt + 1, math.MinInt / 2, math.MinInt32, -1 << 32, -65536, -256, -8, -2, -1, 300, 65535, 65536, 9 * 65535, 1 << 31, math.MaxInt32, 1 << 32, 1<<32 + 2, math.MaxInt/2 + 1, math.MaxInt - 1, math.MaxInt}

// with is these cells with another one in the at-th's place.
func with(cs []api.Cell, at int, turn func(c *api.Cell)) []api.Cell {
	cs = slices.Clone(cs)
	turn(&cs[at])
	return cs
}

// TestNumbers has each number of each cell another one.
func TestNumbers(t *testing.T) {
	near := []int{0, 1, 2, 3, 4, 5, 6, 7, 8, 9, 10, 11, 12, 13, 16, 17, 41, 48, 49, 256, 257}
	numbers := map[string]func(c *api.Cell) *int{
		"Kind":  func(c *api.Cell) *int { return &c.Kind },
		"At":    func(c *api.Cell) *int { return &c.At },
		"Count": func(c *api.Cell) *int { return &c.Count },
		"Kids":  func(c *api.Cell) *int { return &c.Kids },
	}
	for _, x := range samples() {
		for at := range x.cs {
			for name, number := range numbers {
				for _, n := range slices.Concat(near, far) {
					if *number(&x.cs[at]) == n {
						continue
					}
					cs := with(x.cs, at, func(c *api.Cell) { *number(c) = n })
					what := fmt.Sprintf("%s, %s of the %d-th is %d", x.name, name, at, n)
					if mayBeAnother(x, at, name, n) {
						is(t, what, x.tag, cs, x.ps, x.deep)
						continue
					}
					isNone(t, what, x.tag, cs...)
				}
			}
		}
	}
}

// mayBeAnother tells whether a number may be this one too: a radix node of
// four children, and one of up to sixteen of more than twelve, or of up to
// forty-eight of more than forty, may be of one kind or of the next.
func mayBeAnother(x sample, at int, name string, n int) bool {
	c := x.cs[at]
	return name == "Kind" && c.Kind >= api.Radix4 && c.Kind <= api.Radix256 && slices.Contains(kinds(c.Kids), n)
}

// TestFieldsThatAreNotNamed sets each field that is not of a kind of cell.
func TestFieldsThatAreNotNamed(t *testing.T) {
	fields := map[string]func(c *api.Cell){
		"At": func(c *api.Cell) { c.At = 1 }, "Kids": func(c *api.Cell) { c.Kids = 1 },
		"Byte": func(c *api.Cell) { c.Byte = 1 }, "Full": func(c *api.Cell) { c.Full = true },
		"Val": func(c *api.Cell) { c.Val = 1 }, "Key": func(c *api.Cell) { c.Key = []byte{0} },
		"Pairs": func(c *api.Cell) { c.Pairs = []api.Pair{{}} },
	}
	named := map[int]string{
		api.CritLeaf: "Key Val", api.CritInner: "At Kids", api.TernEmpty: "Val", api.TernNode: "Byte At Full Kids",
		api.RadixLeaf: "Key Val", api.Radix4: "Key Full Kids", api.Radix16: "Key Full Kids", api.Radix48: "Key Full Kids",
		api.Radix256: "Key Full Kids", api.BurstNode: "Key Full Kids", api.BurstShelf: "Key Kids Pairs",
	}
	seen := map[int]bool{}
	for _, x := range samples() {
		for at, c := range x.cs {
			seen[c.Kind] = true
			for name, set := range fields {
				if slices.Contains(strings.Fields(named[c.Kind]), name) || name == "Val" && c.Full {
					continue
				}
				isNone(t, fmt.Sprintf("%s, %s of the %d-th", x.name, name, at), x.tag, with(x.cs, at, set)...)
			}
		}
	}
	if len(seen) != len(named) {
		t.Errorf("the test's own trees have %d kinds of cells", len(seen))
	}
}

// TestListsWithoutAnything: a list that is empty is as none.
func TestListsWithoutAnything(t *testing.T) {
	for _, x := range samples() {
		cs := slices.Clone(x.cs)
		for i := range cs {
			if len(cs[i].Key) == 0 {
				cs[i].Key = make([]byte, 0, 3)
			}
			if len(cs[i].Pairs) == 0 {
				cs[i].Pairs = []api.Pair{}
			}
		}
		is(t, "lists that are empty, "+x.name, x.tag, cs, x.ps, x.deep)
		for i := range cs {
			if len(cs[i].Key) == 0 {
				cs[i].Key = nil
			}
			if len(cs[i].Pairs) == 0 {
				cs[i].Pairs = nil
			}
		}
		is(t, "lists that are nil, "+x.name, x.tag, cs, x.ps, x.deep)
	}
}

// TestValues: a value may be any number.
func TestValues(t *testing.T) {
	for _, v := range []uint64{0, 1, math.MaxInt64, 1 << 63, math.MaxUint64} {
		is(t, "a value", api.Crit, []api.Cell{critLeaf(pair("a", v))}, []api.Pair{pair("a", v)}, 1)
		is(t, "a value", api.Ternary, []api.Cell{ternEmpty(v), full(ternNode('a', 0, 0, 1), v)}, []api.Pair{pair("", v), pair("a", v)}, 1)
		is(t, "a value", api.Radix, []api.Cell{full(node(api.Radix4, "", 1, 2), v), radixLeaf(pair("a", v))}, []api.Pair{pair("", v), pair("a", v)}, 2)
		is(t, "a value", api.Burst, []api.Cell{shelf("", pair("a", v))}, []api.Pair{pair("a", v)}, 1)
		five := []api.Cell{full(node(api.BurstNode, "", 1, 5), v), shelf("a", fan("a", 0, 4)...)}
		is(t, "a value", api.Burst, five, append([]api.Pair{pair("", v)}, fan("a", 0, 4)...), 2)
	}
}

// long is a key of n bytes.
func long(n int) string { return strings.Repeat("k", n) }

// onlyWay are the cells of a ternary tree of one key.
func onlyWay(k string, v uint64) []api.Cell {
	var cs []api.Cell
	for at := range len(k) - 1 {
		cs = append(cs, ternNode(k[at], at, middle, 1))
	}
	return append(cs, full(ternNode(k[len(k)-1], len(k)-1, 0, 1), v))
}

func TestLongKeys(t *testing.T) {
	for _, n := range []int{api.MaxKey - 1, api.MaxKey} {
		p, ahead := pair(long(n), 3), pair(long(n-1), 2)
		is(t, "a long key", api.Crit, []api.Cell{critLeaf(p)}, []api.Pair{p}, 1)
		is(t, "long keys", api.Crit, []api.Cell{critInner(9*(n-1), 2), critLeaf(ahead), critLeaf(p)}, []api.Pair{ahead, p}, 2)
		is(t, "a long key", api.Ternary, onlyWay(long(n), 3), []api.Pair{p}, n)
		is(t, "a long key", api.Radix, []api.Cell{radixLeaf(p)}, []api.Pair{p}, 1)
		is(t, "long keys", api.Radix, []api.Cell{full(node(api.Radix4, long(n-1), 1, 2), 2), radixLeaf(p)}, []api.Pair{ahead, p}, 2)
		is(t, "a long key", api.Burst, []api.Cell{shelf("", p)}, []api.Pair{p}, 1)
		is(t, "long keys", api.Burst, []api.Cell{node(api.BurstNode, "", 1, 5), shelf("k", append(fan("k", 0, 3), ahead, p)...)}, append(fan("k", 0, 3), ahead, p), 2)
	}
	for _, n := range []int{api.MaxKey + 1, api.MaxKey + 2, 1 << 17} {
		p, ahead := pair(long(n), 3), pair("a", 2)
		isNone(t, "too long a key", api.Crit, critLeaf(p))
		isNone(t, "too long a key", api.Crit, critInner(5, 2), critLeaf(ahead), critLeaf(p))
		isNone(t, "too long a key", api.Ternary, onlyWay(long(n), 3)...)
		isNone(t, "too long a key", api.Radix, radixLeaf(p))
		isNone(t, "too long a key", api.Radix, full(node(api.Radix4, long(n-1), 1, 2), 2), radixLeaf(p))
		isNone(t, "too long a key", api.Radix, node(api.Radix4, "", 2, 2), radixLeaf(ahead), radixLeaf(p))
		isNone(t, "too long a key", api.Burst, shelf("", p))
		isNone(t, "too long a key", api.Burst, shelf("", ahead, p))
	}
	// Here too but for its length each is well built.
	ahead, p := pair(long(api.MaxKey), 1), pair(long(api.MaxKey+1), 2)
	isNone(t, "one byte too long", api.Crit, critInner(9*api.MaxKey, 2), critLeaf(ahead), critLeaf(p))
	is(t, "as long as may be", api.Crit, []api.Cell{critInner(5, 2), critLeaf(pair("a", 1)), critLeaf(ahead)}, []api.Pair{pair("a", 1), ahead}, 2)
	isNone(t, "one byte too long", api.Ternary, append(with(onlyWay(long(api.MaxKey), 1), api.MaxKey-1, func(c *api.Cell) { c.Kids, c.Count = middle, 2 }), full(ternNode('k', api.MaxKey, 0, 1), 2))...)
}

func TestCritEdges(t *testing.T) {
	a, b, c := pair("a", 1), pair("b", 2), pair("c", 3)
	two := func(at int, x, y api.Pair) []api.Cell { return []api.Cell{critInner(at, 2), critLeaf(x), critLeaf(y)} }
	// a is 1 01100001, b is 1 01100010, c is 1 01100011.
	is(t, "the first bit that differs", api.Crit, two(7, a, b), []api.Pair{a, b}, 2)
	for at := range 30 {
		if at != 7 {
			isNone(t, "another bit", api.Crit, two(at, a, b)...)
			isNone(t, "another bit, and the other one first", api.Crit, two(at, b, a)...)
		}
	}
	isNone(t, "the wrong bits", api.Crit, two(7, b, a)...)
	isNone(t, "bit 8 differs too, but not first", api.Crit, two(8, b, a)...)
	isNone(t, "bit 8 differs too, but not first", api.Crit, two(8, a, b)...)
	for _, at := range []int{-1, 0, 7, 8, 9, 18} {
		isNone(t, "a key twice", api.Crit, two(at, a, a)...)
		isNone(t, "the key without bytes twice", api.Crit, two(at, pair("", 1), pair("", 2))...)
	}
	is(t, "three", api.Crit, []api.Cell{critInner(7, 3), critLeaf(a), critInner(8, 2), critLeaf(b), critLeaf(c)}, []api.Pair{a, b, c}, 3)
	isNone(t, "the other bit first", api.Crit, critInner(8, 3), critLeaf(a), critInner(7, 2), critLeaf(b), critLeaf(c))
	isNone(t, "the same bit twice", api.Crit, critInner(7, 3), critLeaf(a), critInner(7, 2), critLeaf(b), critLeaf(c))
	isNone(t, "the other bit first", api.Crit, critInner(8, 3), critInner(7, 2), critLeaf(a), critLeaf(b), critLeaf(c))
	isNone(t, "the same bit twice", api.Crit, critInner(7, 3), critInner(7, 2), critLeaf(a), critLeaf(b), critLeaf(c))
	isNone(t, "another child's key", api.Crit, critInner(7, 3), critInner(8, 2), critLeaf(a), critLeaf(b), critLeaf(c))
	// Each inner one has the bit in which its neighbours differ first, but
	// stands above one that has a lesser bit: b and c part before \xff from a.
	isNone(t, "an At below that is less", api.Crit, critInner(7, 3), critLeaf(a), critInner(1, 2), critLeaf(b), critLeaf(pair("\xff", 9)))
	isNone(t, "keys that do not rise", api.Crit, critInner(7, 3), critInner(8, 2), critLeaf(c), critLeaf(b), critLeaf(a))
	isNone(t, "an inner one alone", api.Crit, critInner(7, 2))
	isNone(t, "an inner one alone, of no key", api.Crit, critInner(7, 0))
	isNone(t, "leaves alone", api.Crit, critLeaf(a), critLeaf(b))
	isNone(t, "a third child", api.Crit, append(two(7, a, b), critLeaf(c))...)
	for _, kids := range []int{0, 1, 3} {
		isNone(t, "Kids", api.Crit, with(two(7, a, b), 0, func(c *api.Cell) { c.Kids = kids })...)
		for at := range 10 {
			x := api.Cell{Kind: api.CritInner, At: at, Kids: kids, Count: kids}
			isNone(t, "as many children", api.Crit, append([]api.Cell{x}, critLeaf(a), critLeaf(b), critLeaf(c))[:kids+1]...)
		}
	}
	// A 0 is a byte: its 1 ahead tells it from a key's end.
	is(t, "a byte 0 behind", api.Crit, two(9, a, pair("a\x00", 2)), []api.Pair{a, pair("a\x00", 2)}, 2)
	is(t, "bytes 0", api.Crit, two(18, pair("\x00\x00", 1), pair("\x00\x00\x00", 2)), []api.Pair{pair("\x00\x00", 1), pair("\x00\x00\x00", 2)}, 2)
}

func TestTernaryEdges(t *testing.T) {
	x := func(b byte, kids, count int) api.Cell { return full(ternNode(b, 0, kids, count), 1) }
	ones := func(ks ...string) []api.Pair {
		ps := keyed(ks...)
		for i := range ps {
			ps[i].Val = 1
		}
		return ps
	}
	is(t, "TernEmpty alone", api.Ternary, []api.Cell{ternEmpty(1)}, ones(""), 1)
	is(t, "TernEmpty first", api.Ternary, []api.Cell{ternEmpty(1), x('b', lesser, 2), x('a', 0, 1)}, ones("", "a", "b"), 2)
	isNone(t, "TernEmpty twice", api.Ternary, ternEmpty(1), ternEmpty(1))
	isNone(t, "TernEmpty twice, and a node", api.Ternary, ternEmpty(1), ternEmpty(1), x('b', 0, 1))
	isNone(t, "TernEmpty behind", api.Ternary, x('b', 0, 1), ternEmpty(1))
	isNone(t, "TernEmpty last", api.Ternary, ternEmpty(1), x('b', 0, 1), ternEmpty(1))
	for _, kid := range []int{lesser, middle, greater} {
		isNone(t, "TernEmpty as a child", api.Ternary, x('b', kid, 2), ternEmpty(1))
		isNone(t, "TernEmpty as a child", api.Ternary, ternEmpty(1), x('b', kid, 2), ternEmpty(1))
	}
	isNone(t, "TernEmpty with a child", api.Ternary, api.Cell{Kind: api.TernEmpty, Val: 1, Count: 2, Kids: middle}, x('b', 0, 1))
	isNone(t, "TernEmpty that counts all", api.Ternary, api.Cell{Kind: api.TernEmpty, Val: 1, Count: 2}, x('b', 0, 1))
	isNone(t, "two trees", api.Ternary, x('a', 0, 1), x('b', 0, 1))
	isNone(t, "two trees behind a TernEmpty", api.Ternary, ternEmpty(1), x('a', 0, 1), x('b', 0, 1))
	for _, b := range []byte{0, 'a', 'l', 'm', 'n', 0xff} {
		if kid := x(b, 0, 1); b < 'm' {
			is(t, "a lesser one", api.Ternary, []api.Cell{x('m', lesser, 2), kid}, ones(string([]byte{b}), "m"), 2)
			isNone(t, "a lesser one as a greater one", api.Ternary, x('m', greater, 2), kid)
		} else if b > 'm' {
			is(t, "a greater one", api.Ternary, []api.Cell{x('m', greater, 2), kid}, ones("m", string([]byte{b})), 2)
			isNone(t, "a greater one as a lesser one", api.Ternary, x('m', lesser, 2), kid)
		} else {
			isNone(t, "the same one as a lesser one", api.Ternary, x('m', lesser, 2), kid)
			isNone(t, "the same one as a greater one", api.Ternary, x('m', greater, 2), kid)
		}
		// Behind a middle step any byte may stand, and no more what stood above.
		kid := full(ternNode(b, 1, 0, 1), 1)
		is(t, "a middle one", api.Ternary, []api.Cell{x('m', middle, 2), kid}, ones("m", "m"+string([]byte{b})), 2)
		isNone(t, "a middle one where it is not", api.Ternary, x('m', middle, 2), x(b, 0, 1))
	}
	// What stands above a lesser or a greater one bounds all below it.
	for _, b := range []byte{'a', 'g', 'h', 'l', 'm', 'n', 0xff} {
		ks := []string{"g", string([]byte{b}), "m"}
		low := []api.Cell{x('m', lesser, 3), x('g', greater, 2), x(b, 0, 1)}
		high := []api.Cell{x('g', greater, 3), x('m', lesser, 2), x(b, 0, 1)}
		if 'g' < b && b < 'm' {
			is(t, "between two", api.Ternary, low, ones(ks...), 3)
			is(t, "between two", api.Ternary, high, ones(ks...), 3)
			continue
		}
		isNone(t, "not between two", api.Ternary, low...)
		isNone(t, "not between two", api.Ternary, high...)
	}
	// Four below: what is nearest does not bound alone.
	isNone(t, "above the first one", api.Ternary, x('m', lesser, 4), x('c', greater, 3), x('k', greater, 2), x('n', 0, 1))
	isNone(t, "below the first one", api.Ternary, x('m', greater, 4), x('z', lesser, 3), x('p', lesser, 2), x('b', 0, 1))
	isNone(t, "not Full, without a child", api.Ternary, ternNode('m', 0, 0, 0))
	isNone(t, "not Full, without a child, counted", api.Ternary, ternNode('m', 0, 0, 1))
	isNone(t, "not Full, without a middle child", api.Ternary, ternNode('m', 0, lesser, 1), x('a', 0, 1))
	isNone(t, "not Full, without a middle child", api.Ternary, ternNode('m', 0, lesser+greater, 2), x('a', 0, 1), x('z', 0, 1))
	isNone(t, "not Full, below", api.Ternary, x('m', middle, 1), ternNode('m', 1, 0, 0))
	isNone(t, "not Full, with a value", api.Ternary, api.Cell{Kind: api.TernNode, Byte: 'm', Kids: middle, Count: 1, Val: 4}, full(ternNode('m', 1, 0, 1), 1))
	isNone(t, "a first one that is not at 0", api.Ternary, full(ternNode('m', 1, 0, 1), 1))
	isNone(t, "one that goes back", api.Ternary, x('m', middle, 3), full(ternNode('m', 1, middle, 2), 1), full(ternNode('m', 1, 0, 1), 1))
	// Not even with as many children as it has bits.
	for _, kids := range []int{-1, -8, 8, 9, 10, 16, 64, 1 << 62, math.MinInt, math.MinInt + 2, math.MaxInt} {
		n := bits.OnesCount(uint(kids))
		isNone(t, "Kids", api.Ternary, x('m', kids, 1))
		isNone(t, "Kids", api.Ternary, x('m', kids, 2), x('a', 0, 1))
		cs := []api.Cell{x('m', kids, n+1)}
		for b := range n {
			cs = append(cs, full(ternNode(byte(b), 1, 0, 1), 1))
		}
		isNone(t, "Kids", api.Ternary, cs...)
	}
}

// fanned are the cells of a radix node with so many leaves.
func fanned(kind int, kids int, isFull bool) ([]api.Cell, []api.Pair) {
	ps := fan("x", 0, min(kids, 256))
	for b := 256; b < kids; b++ {
		ps = append(ps, pair("x\xff", 7))
	}
	if !isFull {
		return append([]api.Cell{node(kind, "x", kids, kids)}, leaves(ps)...), ps
	}
	top := full(node(kind, "x", kids, kids+1), 9)
	return append([]api.Cell{top}, leaves(ps)...), append([]api.Pair{pair("x", 9)}, ps...)
}

func TestRadixKids(t *testing.T) {
	for i, bounds := range [][2]int{{0, 4}, {4, 16}, {13, 48}, {41, 256}} {
		for kids := range 260 {
			for _, isFull := range []bool{false, true} {
				name := fmt.Sprintf("kind %d, %d children, Full: %v", api.Radix4+i, kids, isFull)
				cs, ps := fanned(api.Radix4+i, kids, isFull)
				if bounds[0] <= kids && kids <= bounds[1] && len(ps) >= 2 {
					is(t, name, api.Radix, cs, ps, 2)
				} else {
					isNone(t, name, api.Radix, cs...)
				}
			}
		}
	}
}

func TestRadixEdges(t *testing.T) {
	a, ab, abc, b := pair("a", 1), pair("ab", 2), pair("abc", 3), pair("b", 4)
	two := func(k string, x, y api.Pair) []api.Cell {
		return []api.Cell{node(api.Radix4, k, 2, 2), radixLeaf(x), radixLeaf(y)}
	}
	is(t, "two", api.Radix, two("", a, b), []api.Pair{a, b}, 2)
	isNone(t, "two that do not rise", api.Radix, two("", b, a)...)
	isNone(t, "a key twice", api.Radix, two("", a, a)...)
	isNone(t, "a key twice, as Key too", api.Radix, two("a", a, a)...)
	isNone(t, "two of one byte", api.Radix, two("", a, ab)...)
	isNone(t, "two of one byte", api.Radix, two("", ab, pair("ac", 1))...)
	isNone(t, "Key as a child too", api.Radix, two("a", a, ab)...)
	isNone(t, "a child that does not begin so", api.Radix, two("a", ab, b)...)
	isNone(t, "a child that does not begin so", api.Radix, two("b", a, b)...)
	isNone(t, "a child that is shorter", api.Radix, two("abc", ab, pair("abcd", 1))...)
	isNone(t, "Key shorter than may be", api.Radix, two("", pair("xa", 1), pair("xb", 2))...)
	isNone(t, "Key shorter than may be, Full", api.Radix, full(node(api.Radix4, "", 2, 3), 1), radixLeaf(pair("xa", 1)), radixLeaf(pair("xb", 2)))
	isNone(t, "Key longer than may be", api.Radix, two("xa", pair("xa", 1), pair("xb", 2))...)
	is(t, "Full with one child", api.Radix, []api.Cell{full(node(api.Radix4, "a", 1, 2), 1), radixLeaf(abc)}, []api.Pair{a, abc}, 2)
	isNone(t, "not Full with one child", api.Radix, node(api.Radix4, "a", 1, 1), radixLeaf(abc))
	isNone(t, "Full without a child", api.Radix, full(node(api.Radix4, "a", 0, 1), 1))
	isNone(t, "not Full without a child", api.Radix, node(api.Radix4, "a", 0, 0))
	isNone(t, "Full that is not counted", api.Radix, full(node(api.Radix4, "a", 1, 1), 1), radixLeaf(abc))
	isNone(t, "Full, its key below too", api.Radix, full(node(api.Radix4, "a", 1, 2), 1), radixLeaf(a))
	isNone(t, "not Full, with a value", api.Radix, with(two("", a, b), 0, func(c *api.Cell) { c.Val = 5 })...)
	// Below a node too: the key goes on from the one above, not from that of
	// another one.
	is(t, "a node below", api.Radix, []api.Cell{node(api.Radix4, "", 2, 3), full(node(api.Radix4, "ab", 1, 2), 2), radixLeaf(abc), radixLeaf(b)}, []api.Pair{ab, abc, b}, 3)
	isNone(t, "a node below with the Key above", api.Radix, node(api.Radix4, "a", 2, 3), full(node(api.Radix4, "a", 1, 2), 2), radixLeaf(abc), radixLeaf(pair("ax", 1)))
	isNone(t, "a node below behind its sibling", api.Radix, node(api.Radix4, "", 2, 3), radixLeaf(b), full(node(api.Radix4, "ab", 1, 2), 2), radixLeaf(abc))
	isNone(t, "a leaf with a child", api.Radix, with([]api.Cell{radixLeaf(a), radixLeaf(ab)}, 0, func(c *api.Cell) { c.Kids, c.Count = 1, 2 })...)
	isNone(t, "leaves alone", api.Radix, radixLeaf(a), radixLeaf(b))
	// A byte 0xff stands behind a byte 0, though as a number with a sign it
	// would stand ahead.
	is(t, "0 and 0xff", api.Radix, two("", pair("\x00", 1), pair("\xff", 2)), []api.Pair{pair("\x00", 1), pair("\xff", 2)}, 2)
	is(t, "0x7f and 0x80", api.Radix, two("", pair("\x7f", 1), pair("\x80", 2)), []api.Pair{pair("\x7f", 1), pair("\x80", 2)}, 2)
}

func TestBurstEdges(t *testing.T) {
	for n := range 12 {
		if ps := fan("", 0, n); n >= 1 && n <= 8 {
			is(t, "a shelf", api.Burst, []api.Cell{shelf("", ps...)}, ps, 1)
		} else {
			isNone(t, "a shelf of too few or too many", api.Burst, shelf("", ps...))
		}
		ps := fan("a", 0, n)
		cs := []api.Cell{node(api.BurstNode, "", 1, n), shelf("a", ps...)}
		if n >= 5 && n <= 8 {
			is(t, "a node", api.Burst, cs, ps, 2)
		} else {
			isNone(t, "a node of too few, or a shelf of too many", api.Burst, cs...)
		}
		// Its own key counts.
		cs = []api.Cell{full(node(api.BurstNode, "", 1, n+1), 3), shelf("a", ps...)}
		if n >= 4 && n <= 8 {
			is(t, "a node, Full", api.Burst, cs, append([]api.Pair{pair("", 3)}, ps...), 2)
		} else {
			isNone(t, "a node of too few, Full", api.Burst, cs...)
		}
	}
	isNone(t, "an empty shelf that says it is one of one", api.Burst, api.Cell{Kind: api.BurstShelf, Kids: 1, Count: 1})
	isNone(t, "an empty shelf beside another one", api.Burst, node(api.BurstNode, "", 2, 5), shelf("a", fan("a", 0, 5)...), shelf("b"))
	isNone(t, "a first Key that is not empty", api.Burst, shelf("a", pair("a", 1)))
	isNone(t, "a first Key that is not empty", api.Burst, node(api.BurstNode, "a", 1, 5), shelf("ab", fan("ab", 0, 5)...))
	isNone(t, "keys that do not rise", api.Burst, shelf("", pair("b", 1), pair("a", 2)))
	isNone(t, "the last keys do not rise", api.Burst, shelf("", pair("a", 1), pair("b", 2), pair("ab", 3)))
	isNone(t, "a key twice", api.Burst, shelf("", pair("a", 1), pair("a", 2)))
	isNone(t, "the key without bytes twice", api.Burst, shelf("", pair("", 1), api.Pair{Key: []byte{}, Val: 1}))
	five := func(k string) api.Cell { return shelf(k, fan(k, 0, 5)...) }
	is(t, "a child's Key", api.Burst, []api.Cell{node(api.BurstNode, "", 1, 5), five("a")}, fan("a", 0, 5), 2)
	isNone(t, "a child's Key that is that above", api.Burst, node(api.BurstNode, "", 1, 5), five(""))
	isNone(t, "a child's Key of two bytes more", api.Burst, node(api.BurstNode, "", 1, 5), five("ab"))
	isNone(t, "a child's Key that does not begin so", api.Burst, node(api.BurstNode, "", 1, 5), node(api.BurstNode, "a", 1, 5), five("bb"))
	isNone(t, "keys that do not begin with Key", api.Burst, node(api.BurstNode, "", 1, 5), shelf("b", fan("a", 0, 5)...))
	isNone(t, "one key that does not begin with Key", api.Burst, node(api.BurstNode, "", 1, 5), shelf("b", append(fan("b", 0, 4), pair("c", 1))...))
	isNone(t, "one key that is shorter than Key", api.Burst, node(api.BurstNode, "", 1, 5), shelf("b", append([]api.Pair{pair("", 1)}, fan("b", 0, 4)...)...))
	own := append([]api.Pair{pair("b", 1)}, fan("b", 0, 4)...)
	is(t, "a key that is Key", api.Burst, []api.Cell{node(api.BurstNode, "", 1, 5), shelf("b", own...)}, own, 2)
	one := func(k string) api.Cell { return shelf(k, pair(k+"x", 1)) }
	is(t, "children that rise", api.Burst, []api.Cell{node(api.BurstNode, "", 3, 7), one("\x00"), five("\x7f"), one("\x80")}, slices.Concat([]api.Pair{pair("\x00x", 1)}, fan("\x7f", 0, 5), []api.Pair{pair("\x80x", 1)}), 2)
	isNone(t, "children that do not rise", api.Burst, node(api.BurstNode, "", 2, 6), five("b"), one("a"))
	isNone(t, "two children of one byte", api.Burst, node(api.BurstNode, "", 2, 6), five("b"), shelf("b", pair("bz", 1)))
	isNone(t, "a node of no children", api.Burst, node(api.BurstNode, "", 0, 5))
	isNone(t, "a shelf with a child", api.Burst, shelf("", pair("a", 1)), one("a"))
	isNone(t, "not Full, with a value", api.Burst, api.Cell{Kind: api.BurstNode, Kids: 1, Count: 5, Val: 1}, five("a"))
	all := []api.Cell{full(node(api.BurstNode, "", 256, 257), 1)}
	ps := []api.Pair{pair("", 1)}
	for b := range 256 {
		all = append(all, one(string([]byte{byte(b)})))
		ps = append(ps, pair(string([]byte{byte(b), 'x'}), 1))
	}
	is(t, "all bytes", api.Burst, all, ps, 2)
}

// isBroken looks whether long lists of cells that are a map's are none any
// more, if one thing far behind is another one.
func isBroken(t *testing.T, name string, tag int, cs []api.Cell) {
	t.Helper()
	isNone(t, name+", one too few", tag, cs[:len(cs)-1]...)
	isNone(t, name+", one too many", tag, append(slices.Clone(cs), cs[len(cs)-1])...)
	isNone(t, name+", another last one", tag, with(cs, len(cs)-1, func(c *api.Cell) { c.Count++ })...)
	isNone(t, name+", another one amid", tag, with(cs, len(cs)/2, func(c *api.Cell) { c.At++ })...)
}

func TestLongLists(t *testing.T) {
	// Keys of three bytes, one of 16, and two of 64: 65,536.
	var ps []api.Pair
	for i := range 1 << 16 {
		ps = append(ps, pair(string([]byte{byte(i >> 12 * 4), byte(i >> 6 & 63 * 4), byte(i & 63 * 4)}), uint64(i)))
	}
	c := chance(3)
	for _, x := range []struct{ tag, deep int }{{api.Crit, 17}, {api.Ternary, 0}, {api.Radix, 4}, {api.Burst, 4}} {
		cs := c.grow(x.tag, ps)
		if x.tag == api.Ternary {
			_, _, x.deep = plainly(x.tag, cs)
		}
		name := fmt.Sprintf("%d cells", len(cs))
		is(t, name, x.tag, cs, ps, x.deep)
		isBroken(t, name, x.tag, cs)
	}
}

// TestDeepTrees has trees in which each cell stands below the one before it.
func TestDeepTrees(t *testing.T) {
	n := api.MaxKey
	ternary := onlyWay(long(n), 3)
	is(t, "a deep way", api.Ternary, ternary, []api.Pair{pair(long(n), 3)}, n)
	isBroken(t, "a deep way", api.Ternary, ternary)
	var crit []api.Cell
	var ps []api.Pair
	for i := range 3000 {
		ps = append(ps, pair(long(i), uint64(i)))
		crit = append(crit, critInner(9*i, 3000-i), critLeaf(ps[i]))
	}
	crit = slices.Delete(crit, len(crit)-2, len(crit)-1)
	is(t, "keys that begin one another", api.Crit, crit, ps, 3000)
	isBroken(t, "keys that begin one another", api.Crit, crit)
	var radix []api.Cell
	for i := range 2999 {
		radix = append(radix, full(node(api.Radix4, long(i), 1, 3000-i), uint64(i)))
	}
	radix = append(radix, radixLeaf(ps[2999]))
	is(t, "keys that begin one another", api.Radix, radix, ps, 3000)
	isBroken(t, "keys that begin one another", api.Radix, radix)
	var burst []api.Cell
	for i := range 2992 {
		burst = append(burst, full(node(api.BurstNode, long(i), 1, 3000-i), uint64(i)))
	}
	burst = append(burst, shelf(long(2992), ps[2992:]...))
	is(t, "keys that begin one another", api.Burst, burst, ps, 2993)
	isBroken(t, "keys that begin one another", api.Burst, burst)
}

// TestDeepNonsense has cells without an end of children that never come.
func TestDeepNonsense(t *testing.T) {
	for _, c := range []api.Cell{critInner(0, 2), ternNode('a', 0, middle, 1), full(ternNode('a', 0, 7, 1), 1), node(api.Radix4, "", 2, 2), node(api.Radix256, "", 256, 256), node(api.BurstNode, "", 1, 5), node(api.BurstNode, "", 256, 256)} {
		cs := slices.Repeat([]api.Cell{c}, 1<<18)
		isNone(t, "one cell often", tagOf(c.Kind), cs...)
	}
	leaf := critLeaf(pair("a", 1))
	isNone(t, "leaves only", api.Crit, slices.Repeat([]api.Cell{leaf}, 1<<18)...)
	// Each second child stands below the one before it.
	var cs []api.Cell
	for i := range 1 << 17 {
		cs = append(cs, critInner(i, 1<<17-i+1), leaf)
	}
	isNone(t, "a deep tree of one key", api.Crit, append(cs, leaf)...)
}

// TestLongKeysInManyCells: to look at many long keys is to look at each once.
func TestLongKeysInManyCells(t *testing.T) {
	var ps []api.Pair
	var wide []api.Cell
	k := []byte(long(api.MaxKey - 2))
	for i := range 1000 {
		ps = append(ps, api.Pair{Key: append(bytes.Clone(k), byte(i>>8), byte(i)), Val: uint64(i)})
	}
	c := chance(4)
	for _, tag := range []int{api.Crit, api.Radix} {
		cs := c.grow(tag, ps)
		if !Sound(tag, cs...) || !same(Pairs(tag, cs...), ps) {
			t.Errorf("P11.1: %d: many long keys", tag)
		}
		wide = cs
	}
	last := len(wide) - 1
	isNone(t, "the last of many long keys", api.Radix, with(wide, last, func(c *api.Cell) { c.Key = wide[last-1].Key })...)
}
