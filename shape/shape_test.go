package shape

import (
	"fmt"
	"math"
	"slices"
	"strings"
	"sync"
	"testing"

	"bramble/api"
)

// tags are the four kinds of trees.
var tags = []int{api.Crit, api.Ternary, api.Radix, api.Burst}

// noTags are numbers that are no kind of a tree.
var noTags = []int{0, 5, 6, -1, -2, -3, -4, 11, 255, 256 + api.Crit, 1<<16 + api.Ternary, math.MaxInt32, math.MinInt32, 1<<32 + api.Radix, -1<<32 + api.Burst, math.MaxInt - 1, math.MaxInt, math.MinInt, math.MinInt + 1}

// brief is a text of these pairs, of long keys but their beginnings.
func brief(ps []api.Pair) string {
	var out []string
	for _, p := range ps[:min(len(ps), 20)] {
		out = append(out, fmt.Sprintf("%.20q=%d", p.Key, p.Val))
	}
	return strings.Join(out, " ")
}

// is looks whether cells are those of a map of these pairs, and so deep.
func is(t *testing.T, name string, tag int, cs []api.Cell, ps []api.Pair, deep int) {
	t.Helper()
	if !Sound(tag, cs...) {
		t.Errorf("P11.1: %s: Sound(%d, %d cells): false", name, tag, len(cs))
		return
	}
	if got := Pairs(tag, cs...); !same(got, ps) {
		t.Errorf("P11.1: %s: Pairs(%d, %d cells): %s; not %s", name, tag, len(cs), brief(got), brief(ps))
	}
	if got := Deep(tag, cs...); got != deep {
		t.Errorf("P11.1: %s: Deep(%d, %d cells): %d, not %d", name, tag, len(cs), got, deep)
	}
}

// isNone looks whether cells are no map's.
func isNone(t *testing.T, name string, tag int, cs ...api.Cell) {
	t.Helper()
	if Sound(tag, cs...) {
		t.Errorf("P11.1: %s: Sound(%d, %d cells): true", name, tag, len(cs))
	}
	if got := Pairs(tag, cs...); len(got) != 0 {
		t.Errorf("P11.1, R2: %s: Pairs(%d, %d cells): %s", name, tag, len(cs), brief(got))
	}
	if got := Deep(tag, cs...); got != 0 {
		t.Errorf("P11.1, R2: %s: Deep(%d, %d cells): %d", name, tag, len(cs), got)
	}
}

// asPlainly looks at cells as the plainest way does, and tells whether they are
// a map's.
func asPlainly(t *testing.T, name string, tag int, cs ...api.Cell) bool {
	t.Helper()
	sound, ps, deep := plainly(tag, cs)
	if sound {
		is(t, name, tag, cs, ps, deep)
	} else {
		isNone(t, name, tag, cs...)
	}
	return sound
}

// sample is a tree, written out, with what is to be told of it.
type sample struct {
	name string
	tag  int
	cs   []api.Cell
	ps   []api.Pair
	deep int
}

// samples has each kind of cell, each kind of child, and keys that begin one
// another.
func samples() []sample {
	return slices.Concat(critSamples(), ternarySamples(), radixSamples(), burstSamples())
}

func critSamples() []sample {
	a, ab, b := pair("a", 1), pair("ab", 2), pair("b", 3)
	return []sample{
		{"no key", api.Crit, nil, nil, 0},
		{"the key without bytes", api.Crit, []api.Cell{critLeaf(pair("", 5))}, []api.Pair{pair("", 5)}, 1},
		{"one key", api.Crit, []api.Cell{critLeaf(b)}, []api.Pair{b}, 1},
		{"one key of the value 0", api.Crit, []api.Cell{critLeaf(pair("x", 0))}, []api.Pair{pair("x", 0)}, 1},
		// a is 1 01100001, b is 1 01100010: they differ first in the eighth bit.
		{"three keys", api.Crit, []api.Cell{critInner(7, 3), critInner(9, 2), critLeaf(a), critLeaf(ab), critLeaf(b)}, []api.Pair{a, ab, b}, 3},
		{"the first bit of all", api.Crit, []api.Cell{critInner(0, 2), critLeaf(pair("", 1)), critLeaf(pair("\x00", 2))}, keyed("", "\x00"), 2},
		{"a second child with children", api.Crit, []api.Cell{critInner(0, 4), critLeaf(pair("", 1)), critInner(1, 3), critLeaf(pair("\x00", 2)), critInner(9, 2), critLeaf(pair("\x80", 3)), critLeaf(pair("\x80\x00", 4))}, keyed("", "\x00", "\x80", "\x80\x00"), 4},
	}
}

func ternarySamples() []sample {
	return []sample{
		{"no key", api.Ternary, nil, nil, 0},
		{"the key without bytes", api.Ternary, []api.Cell{ternEmpty(5)}, []api.Pair{pair("", 5)}, 1},
		{"the key without bytes, of the value 0", api.Ternary, []api.Cell{ternEmpty(0)}, []api.Pair{pair("", 0)}, 1},
		{"one key", api.Ternary, []api.Cell{full(ternNode('x', 0, 0, 1), 5)}, []api.Pair{pair("x", 5)}, 1},
		{"one key of the value 0", api.Ternary, []api.Cell{full(ternNode('x', 0, 0, 1), 0)}, []api.Pair{pair("x", 0)}, 1},
		{"the key without bytes, and one byte", api.Ternary, []api.Cell{ternEmpty(6), full(ternNode('x', 0, 0, 1), 5)}, []api.Pair{pair("", 6), pair("x", 5)}, 1},
		{"the key without bytes, and two bytes", api.Ternary, []api.Cell{ternEmpty(6), ternNode('x', 0, 2, 1), full(ternNode('y', 1, 0, 1), 5)}, []api.Pair{pair("", 6), pair("xy", 5)}, 2},
		{"one key of three bytes", api.Ternary, []api.Cell{ternNode(0, 0, 2, 1), ternNode(0xff, 1, 2, 1), full(ternNode(0, 2, 0, 1), 5)}, []api.Pair{pair("\x00\xff\x00", 5)}, 3},
		{"all three ways", api.Ternary, []api.Cell{
			ternEmpty(1), full(ternNode('b', 0, 7, 5), 3), full(ternNode('a', 0, 0, 1), 2),
			full(ternNode('z', 1, 0, 1), 4), full(ternNode('d', 0, 1, 2), 6), full(ternNode('c', 0, 0, 1), 5),
		}, keyed("", "a", "b", "bz", "c", "d"), 3},
		{"ways on both sides of a middle one", api.Ternary, []api.Cell{
			ternNode('m', 0, 7, 7), full(ternNode('d', 0, 6, 3), 1), full(ternNode('m', 1, 0, 1), 2),
			full(ternNode('k', 0, 0, 1), 3), full(ternNode('m', 1, 5, 3), 5), full(ternNode('b', 1, 0, 1), 4), full(ternNode('y', 1, 0, 1), 6),
			full(ternNode('q', 0, 0, 1), 7),
		}, keyed("d", "dm", "k", "mb", "mm", "my", "q"), 3},
	}
}

func radixSamples() []sample {
	return []sample{
		{"no key", api.Radix, nil, nil, 0},
		{"the key without bytes", api.Radix, []api.Cell{radixLeaf(pair("", 5))}, []api.Pair{pair("", 5)}, 1},
		{"one key", api.Radix, []api.Cell{radixLeaf(pair("abc", 0))}, []api.Pair{pair("abc", 0)}, 1},
		{"two keys", api.Radix, []api.Cell{node(api.Radix4, "", 2, 2), radixLeaf(pair("a", 1)), radixLeaf(pair("b", 2))}, keyed("a", "b"), 2},
		{"two keys, one the beginning", api.Radix, []api.Cell{full(node(api.Radix4, "ab", 1, 2), 1), radixLeaf(pair("abcd", 2))}, keyed("ab", "abcd"), 2},
		{"nodes below a node", api.Radix, []api.Cell{
			full(node(api.Radix4, "a", 3, 6), 1), node(api.Radix4, "abb", 2, 2), radixLeaf(pair("abba", 2)), radixLeaf(pair("abbc", 3)),
			radixLeaf(pair("ac", 4)), full(node(api.Radix4, "ad", 1, 2), 5), radixLeaf(pair("ada", 6)),
		}, keyed("a", "abba", "abbc", "ac", "ad", "ada"), 3},
		{"a Radix16", api.Radix, slices.Concat([]api.Cell{full(node(api.Radix16, "x", 4, 5), 1)}, leaves(fan("x", 0, 4))), slices.Concat(keyed("x"), fan("x", 0, 4)), 2},
		{"a Radix48", api.Radix, slices.Concat([]api.Cell{node(api.Radix48, "x", 48, 48)}, leaves(fan("x", 208, 48))), fan("x", 208, 48), 2},
		{"a Radix256", api.Radix, slices.Concat([]api.Cell{full(node(api.Radix256, "", 256, 257), 1)}, leaves(fan("", 0, 256))), slices.Concat(keyed(""), fan("", 0, 256)), 2},
	}
}

// leaves are the leaves of these pairs.
func leaves(ps []api.Pair) []api.Cell {
	var cs []api.Cell
	for _, p := range ps {
		cs = append(cs, radixLeaf(p))
	}
	return cs
}

func burstSamples() []sample {
	return []sample{
		{"no key", api.Burst, nil, nil, 0},
		{"the key without bytes", api.Burst, []api.Cell{shelf("", pair("", 5))}, []api.Pair{pair("", 5)}, 1},
		{"one key", api.Burst, []api.Cell{shelf("", pair("abc", 0))}, []api.Pair{pair("abc", 0)}, 1},
		{"eight keys", api.Burst, []api.Cell{shelf("", keyed("", "a", "aa", "ab", "b", "ba", "bb", "c")...)}, keyed("", "a", "aa", "ab", "b", "ba", "bb", "c"), 1},
		{"nine keys", api.Burst, []api.Cell{full(node(api.BurstNode, "", 2, 9), 7), shelf("a", fan("a", 0, 7)...), shelf("b", pair("b", 5))}, slices.Concat([]api.Pair{pair("", 7)}, fan("a", 0, 7), []api.Pair{pair("b", 5)}), 2},
		{"a node below a node", api.Burst, []api.Cell{
			node(api.BurstNode, "", 3, 11), shelf("\x00", pair("\x00x", 1)), full(node(api.BurstNode, "a", 2, 9), 2),
			shelf("ab", fan("ab", 0, 7)...), shelf("ac", pair("ac", 4)), shelf("\xff", pair("\xff\xff", 5)),
		}, slices.Concat([]api.Pair{pair("\x00x", 1), pair("a", 2)}, fan("ab", 0, 7), []api.Pair{pair("ac", 4), pair("\xff\xff", 5)}), 3},
	}
}

func TestExample(t *testing.T) {
	if !Sound(api.Crit) {
		t.Error("P11.1: Sound(Crit) of no cells: false")
	}
}

func TestSamples(t *testing.T) {
	for _, x := range samples() {
		is(t, x.name, x.tag, x.cs, x.ps, x.deep)
	}
}

func TestNoCells(t *testing.T) {
	for _, tag := range tags {
		is(t, "no cells", tag, nil, nil, 0)
		is(t, "a list without cells", tag, []api.Cell{}, nil, 0)
	}
	for _, tag := range noTags {
		isNone(t, "no cells", tag)
		isNone(t, "a list without cells", tag, []api.Cell{}...)
	}
}

func TestOtherTags(t *testing.T) {
	for _, x := range samples() {
		for _, tag := range slices.Concat(tags, noTags) {
			if tag != x.tag && len(x.cs) > 0 {
				isNone(t, "a tree of another kind, "+x.name, tag, x.cs...)
			}
		}
	}
}

func TestCellsOfAnotherKindOfTree(t *testing.T) {
	for _, x := range samples() {
		for _, other := range samples() {
			if other.tag == x.tag || len(x.cs) == 0 || len(other.cs) == 0 {
				continue
			}
			c := other.cs[len(other.cs)-1]
			for at := range x.cs {
				cs := slices.Clone(x.cs)
				cs[at] = c
				isNone(t, "a cell of another kind of tree", x.tag, cs...)
				isNone(t, "a cell of another kind of tree too many", x.tag, slices.Insert(slices.Clone(x.cs), at, c)...)
			}
			isNone(t, "a cell of another kind of tree behind", x.tag, append(slices.Clone(x.cs), c)...)
		}
	}
}

func TestTooFewAndTooMany(t *testing.T) {
	for _, x := range samples() {
		for at, c := range x.cs {
			isNone(t, "one twice, "+x.name, x.tag, slices.Insert(slices.Clone(x.cs), at, c)...)
			isNone(t, "one once more at the end, "+x.name, x.tag, append(slices.Clone(x.cs), c)...)
			asPlainly(t, "one too few, "+x.name, x.tag, slices.Delete(slices.Clone(x.cs), at, at+1)...)
			asPlainly(t, "the first ones alone, "+x.name, x.tag, x.cs[:at]...)
			asPlainly(t, "the last ones alone, "+x.name, x.tag, x.cs[at:]...)
		}
		if len(x.cs) > 0 {
			isNone(t, "a tree twice, "+x.name, x.tag, slices.Concat(x.cs, x.cs)...)
			isNone(t, "a cell without a kind, "+x.name, x.tag, append(slices.Clone(x.cs), api.Cell{})...)
		}
	}
}

// TestGrown looks at trees of many shapes.
func TestGrown(t *testing.T) {
	c := chance(1)
	for n := range 400 {
		ps := c.some(n / 8)
		for _, tag := range tags {
			cs := c.grow(tag, ps)
			sound, want, deep := plainly(tag, cs)
			if !sound || !same(want, ps) {
				t.Fatalf("the test's own trees: %d, %d pairs", tag, len(ps))
			}
			is(t, "a grown tree", tag, cs, ps, deep)
		}
	}
}

// turns are ways to make a cell another one.
var turns = []func(c *chance, x *api.Cell, other api.Cell){
	func(c *chance, x *api.Cell, other api.Cell) { x.Kind += c.below(5) - 2 },
	func(c *chance, x *api.Cell, other api.Cell) { x.At += c.below(5) - 2 },
	func(c *chance, x *api.Cell, other api.Cell) { x.Count += c.below(5) - 2 },
	func(c *chance, x *api.Cell, other api.Cell) { x.Kids += c.below(9) - 4 },
	func(c *chance, x *api.Cell, other api.Cell) { x.Byte += byte(c.below(5) - 2) },
	func(c *chance, x *api.Cell, other api.Cell) { x.Full = !x.Full },
	func(c *chance, x *api.Cell, other api.Cell) { x.Val = uint64(c.below(3)) },
	func(c *chance, x *api.Cell, other api.Cell) { x.Key = other.Key },
	func(c *chance, x *api.Cell, other api.Cell) { x.Key = x.Key[:c.below(len(x.Key)+1)] },
	func(c *chance, x *api.Cell, other api.Cell) { x.Key = append(slices.Clone(x.Key), byte(c.below(3))) },
	func(c *chance, x *api.Cell, other api.Cell) {
		x.Key = slices.Clone(x.Key)
		if len(x.Key) > 0 {
			x.Key[c.below(len(x.Key))] += byte(c.below(5) - 2)
		}
	},
	func(c *chance, x *api.Cell, other api.Cell) { x.Pairs = other.Pairs },
	func(c *chance, x *api.Cell, other api.Cell) { x.Pairs = x.Pairs[:c.below(len(x.Pairs)+1)] },
	func(c *chance, x *api.Cell, other api.Cell) { x.Kids, x.Count = len(x.Pairs), len(x.Pairs) },
	func(c *chance, x *api.Cell, other api.Cell) { *x = other },
	func(c *chance, x *api.Cell, other api.Cell) { x.Full, x.Val, x.Count = true, 3, x.Count+1 },
}

// TestMixed looks at trees in which some things are other ones.
func TestMixed(t *testing.T) {
	c := chance(2)
	sounds := 0
	for range 60000 {
		tag := tags[c.below(4)]
		cs := c.grow(tag, c.some(1+c.below(20)))
		for range 1 + c.below(3) {
			at, from := c.below(len(cs)), c.below(len(cs))
			switch turn := c.below(len(turns) + 3); turn {
			case len(turns):
				cs = slices.Delete(cs, at, at+1)
			case len(turns) + 1:
				cs = slices.Insert(cs, at, cs[from])
			case len(turns) + 2:
				cs[at], cs[from] = cs[from], cs[at]
			default:
				turns[turn](&c, &cs[at], cs[from])
			}
			if len(cs) == 0 {
				break
			}
		}
		if asPlainly(t, "a mixed tree", tag, cs...) {
			sounds++
		}
		if t.Failed() {
			t.Fatal(text(cs))
		}
	}
	if sounds < 1000 || sounds > 59000 {
		t.Errorf("the test's own trees: %d are sound", sounds)
	}
}

// TestLeavesAsItWas looks at R4: what is handed in stays as it was.
func TestLeavesAsItWas(t *testing.T) {
	for _, x := range samples() {
		cs := copied(x.cs)
		was := text(cs)
		for _, tag := range tags {
			Sound(tag, cs...)
			Pairs(tag, cs...)
			Deep(tag, cs...)
		}
		if text(cs) != was {
			t.Errorf("R4: %s: cells of %d were changed, or the room behind them", x.name, x.tag)
		}
	}
}

// TestTellsItsOwn looks at R4: what is told may be written over.
func TestTellsItsOwn(t *testing.T) {
	for _, x := range samples() {
		cs := copied(x.cs)
		was := text(cs)
		got, other := Pairs(x.tag, cs...), Pairs(x.tag, cs...)
		for i := range got {
			// Also what may be appended to one key must not reach the next.
			k := append(got[i].Key, 0xee, 0xee)
			for j := range k {
				k[j] ^= 0x55
			}
			for j := range got[i].Key {
				got[i].Key[j] = 0xdd
			}
			if i+1 < len(got) && !same(got[i+1:], x.ps[i+1:]) {
				t.Fatalf("R4: %s of %d: two keys that were told share memory", x.name, x.tag)
			}
			got[i] = pair("another", 99)
		}
		if got = append(got, pair("behind", 98)); !same(other, x.ps) || text(cs) != was {
			t.Errorf("R4: %s of %d: what was told shares memory", x.name, x.tag)
		}
		is(t, x.name, x.tag, cs, x.ps, x.deep)
		// And what was told stays, whatever becomes of the cells.
		for i := range cs {
			for j := range cs[i].Key {
				cs[i].Key[j] = 0xcc
			}
			for j := range cs[i].Pairs {
				for k := range cs[i].Pairs[j].Key {
					cs[i].Pairs[j].Key[k] = 0xcc
				}
				cs[i].Pairs[j].Val = 77
			}
			cs[i] = api.Cell{}
		}
		if !same(other, x.ps) {
			t.Errorf("R4: %s of %d: what was told is kept in the cells", x.name, x.tag)
		}
	}
}

// TestAtOneTime looks at R5: several goroutines ask at one time.
func TestAtOneTime(t *testing.T) {
	all := samples()
	var group sync.WaitGroup
	for range 8 {
		group.Go(func() {
			for range 20 {
				for _, x := range all {
					is(t, "at one time, "+x.name, x.tag, x.cs, x.ps, x.deep)
				}
			}
		})
	}
	group.Wait()
}
