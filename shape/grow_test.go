package shape

import (
	"bytes"
	"fmt"
	"slices"
	"strings"

	"bramble/api"
)

// chance is a row of numbers that is the same in every run.
type chance uint64

// below tells the next number, from 0 up to below n.
func (c *chance) below(n int) int {
	*c = *c*6364136223846793005 + 1442695040888963407
	return int(uint64(*c) >> 33 % uint64(n))
}

// pair makes a pair of this key and this value.
func pair(k string, v uint64) api.Pair { return api.Pair{Key: []byte(k), Val: v} }

// keyed makes pairs of these keys, with the values 1, 2 and so on.
func keyed(ks ...string) []api.Pair {
	var ps []api.Pair
	for i, k := range ks {
		ps = append(ps, pair(k, uint64(i+1)))
	}
	return ps
}

// fan makes pairs of n keys, one byte behind k, from this one on.
func fan(k string, from int, n int) []api.Pair {
	var ps []api.Pair
	for i := range n {
		ps = append(ps, pair(k+string([]byte{byte(from + i)}), uint64(1000+i)))
	}
	return ps
}

// some makes pairs of up to n unlike keys, rising.
func (c *chance) some(n int) []api.Pair {
	var ks []string
	for range n {
		k := make([]byte, c.below(6))
		for i := range k {
			k[i] = []byte{0, 'a', 'a', 'b', 0xff}[c.below(5)]
		}
		ks = append(ks, string(k))
	}
	slices.Sort(ks)
	ps := keyed(slices.Compact(ks)...)
	for i := range ps {
		ps[i].Val = uint64(c.below(4))
	}
	return ps
}

// Cells, each with just the fields that the chapter names.

func critLeaf(p api.Pair) api.Cell {
	return api.Cell{Kind: api.CritLeaf, Key: p.Key, Val: p.Val, Count: 1}
}

func critInner(at, count int) api.Cell {
	return api.Cell{Kind: api.CritInner, At: at, Kids: 2, Count: count}
}

func ternEmpty(v uint64) api.Cell { return api.Cell{Kind: api.TernEmpty, Val: v, Count: 1} }

func ternNode(b byte, at, kids, count int) api.Cell {
	return api.Cell{Kind: api.TernNode, Byte: b, At: at, Kids: kids, Count: count}
}

func radixLeaf(p api.Pair) api.Cell {
	return api.Cell{Kind: api.RadixLeaf, Key: p.Key, Val: p.Val, Count: 1}
}

func node(kind int, k string, kids, count int) api.Cell {
	return api.Cell{Kind: kind, Key: []byte(k), Kids: kids, Count: count}
}

func shelf(k string, ps ...api.Pair) api.Cell {
	return api.Cell{Kind: api.BurstShelf, Key: []byte(k), Kids: len(ps), Count: len(ps), Pairs: ps}
}

// full is c with a key of its own.
func full(c api.Cell, v uint64) api.Cell {
	c.Full, c.Val = true, v
	return c
}

// alike is how many bytes all these keys begin with; they rise.
func alike(ps []api.Pair) int {
	n := 0
	for last := ps[len(ps)-1].Key; n < len(ps[0].Key) && ps[0].Key[n] == last[n]; n++ {
	}
	return n
}

// parts are those that share their at-th byte, each; all have one.
func parts(ps []api.Pair, at int) [][]api.Pair {
	var out [][]api.Pair
	for _, p := range ps {
		if n := len(out); n > 0 && out[n-1][0].Key[at] == p.Key[at] {
			out[n-1] = append(out[n-1], p)
			continue
		}
		out = append(out, []api.Pair{p})
	}
	return out
}

// grow makes the cells of a tree of these pairs, which rise; where a tree may
// have one shape or another, c tells which.
func (c *chance) grow(tag int, ps []api.Pair) []api.Cell {
	if len(ps) == 0 {
		return nil
	}
	switch tag {
	case api.Crit:
		return c.crit(ps)
	case api.Ternary:
		if len(ps[0].Key) == 0 {
			return append([]api.Cell{ternEmpty(ps[0].Val)}, c.ternary(parts(ps[1:], 0), 0)...)
		}
		return c.ternary(parts(ps, 0), 0)
	case api.Radix:
		return c.radix(ps)
	}
	return c.burst("", ps)
}

func (c *chance) crit(ps []api.Pair) []api.Cell {
	if len(ps) == 1 {
		return []api.Cell{critLeaf(ps[0])}
	}
	// The bits of the byte behind those that all begin with.
	same := alike(ps)
	bit := func(i, at int) byte { k := ps[i].Key[same:]; return bitOf(k[:min(1, len(k))], at) }
	at := 0
	for bit(0, at) == bit(len(ps)-1, at) {
		at++
	}
	n := 0
	for bit(n, at) == 0 {
		n++
	}
	return slices.Concat([]api.Cell{critInner(9*same+at, len(ps))}, c.crit(ps[:n]), c.crit(ps[n:]))
}

func (c *chance) ternary(ps [][]api.Pair, at int) []api.Cell {
	if len(ps) == 0 {
		return nil
	}
	i := c.below(len(ps))
	x := ternNode(ps[i][0].Key[at], at, 0, len(slices.Concat(ps...)))
	behind := ps[i]
	if len(behind[0].Key) == at+1 {
		x, behind = full(x, behind[0].Val), behind[1:]
	}
	below := [][]api.Cell{c.ternary(ps[:i], at), c.ternary(parts(behind, at+1), at+1), c.ternary(ps[i+1:], at)}
	for way, cs := range below {
		if len(cs) > 0 {
			x.Kids += 1 << way
		}
	}
	return append([]api.Cell{x}, slices.Concat(below...)...)
}

// kinds are those that a radix node of so many children may be of.
func kinds(kids int) []int {
	var ks []int
	for i, x := range [][2]int{{1, 4}, {4, 16}, {13, 48}, {41, 256}} {
		if x[0] <= kids && kids <= x[1] {
			ks = append(ks, api.Radix4+i)
		}
	}
	return ks
}

func (c *chance) radix(ps []api.Pair) []api.Cell {
	if len(ps) == 1 {
		return []api.Cell{radixLeaf(ps[0])}
	}
	n := alike(ps)
	x := node(0, string(ps[0].Key[:n]), 0, len(ps))
	if len(ps[0].Key) == n {
		x, ps = full(x, ps[0].Val), ps[1:]
	}
	var below []api.Cell
	for _, part := range parts(ps, n) {
		below = append(below, c.radix(part)...)
		x.Kids++
	}
	ks := kinds(x.Kids)
	x.Kind = ks[c.below(len(ks))]
	return append([]api.Cell{x}, below...)
}

func (c *chance) burst(way string, ps []api.Pair) []api.Cell {
	if len(ps) <= api.ShelfLeft || len(ps) <= api.ShelfMost && c.below(2) == 0 {
		return []api.Cell{shelf(way, ps...)}
	}
	x := node(api.BurstNode, way, 0, len(ps))
	if len(ps[0].Key) == len(way) {
		x, ps = full(x, ps[0].Val), ps[1:]
	}
	var below []api.Cell
	for _, part := range parts(ps, len(way)) {
		below = append(below, c.burst(string(part[0].Key[:len(way)+1]), part)...)
		x.Kids++
	}
	return append([]api.Cell{x}, below...)
}

// copied are cells of their own, with keys and pairs of their own, all with
// room behind them that is filled.
func copied(cs []api.Cell) []api.Cell {
	room := append(slices.Clone(cs), critInner(-7, -7), critInner(-8, -8))
	for i, c := range cs {
		room[i].Key = roomy(c.Key)
		ps := append(slices.Clone(c.Pairs), pair("behind", 7))
		for j, p := range c.Pairs {
			ps[j].Key = roomy(p.Key)
		}
		room[i].Pairs = ps[:len(c.Pairs)]
	}
	return room[:len(cs)]
}

// roomy is a list of its own of these bytes, with room behind it that is filled.
func roomy(k []byte) []byte { return append(slices.Clone(k), 7, 8, 9)[:len(k)] }

// text is a text of all that cells hold, also in the room behind them.
func text(cs []api.Cell) string {
	var out strings.Builder
	for _, c := range cs[:cap(cs)] {
		fmt.Fprintf(&out, "%d %d %d %d %d %v %d %q", c.Kind, c.At, c.Count, c.Kids, c.Byte, c.Full, c.Val, c.Key[:cap(c.Key)])
		for _, p := range c.Pairs[:cap(c.Pairs)] {
			fmt.Fprintf(&out, " %q %d", p.Key[:cap(p.Key)], p.Val)
		}
		out.WriteString("\n")
	}
	return out.String()
}

// same tells whether two lists hold the same pairs.
func same(a, b []api.Pair) bool {
	return slices.EqualFunc(a, b, func(x, y api.Pair) bool {
		return x.Val == y.Val && bytes.Equal(x.Key, y.Key)
	})
}
