package shape

import (
	"bytes"
	"slices"
	"strings"

	"bramble/api"
)

// twig is a cell with what hangs below it, for the plainest way to look at a
// tree: of every node all that is below it is gathered, and each sentence of
// the chapter asked of it.
type twig struct {
	api.Cell
	kids []*twig
	// ps are the pairs in it and below.
	ps   []api.Pair
	deep int
}

// plainly tells what Sound, Pairs and Deep are to tell.
func plainly(tag int, cs []api.Cell) (bool, []api.Pair, int) {
	if tag < api.Crit || tag > api.Burst {
		return false, nil, 0
	}
	var ps []api.Pair
	deep := 0
	rest := cs
	if tag == api.Ternary && len(rest) > 0 && rest[0].Kind == api.TernEmpty {
		if !only(rest[0], "Val") || rest[0].Count != 1 {
			return false, nil, 0
		}
		ps, deep, rest = []api.Pair{{Val: rest[0].Val}}, 1, rest[1:]
	}
	if len(rest) > 0 {
		top, behind, ok := twigs(tag, rest)
		if !ok || len(behind) > 0 || !top.asTold(tag) {
			return false, nil, 0
		}
		ps, deep = append(ps, top.ps...), max(deep, top.deep)
	}
	for i, p := range ps {
		if len(p.Key) > api.MaxKey || i > 0 && bytes.Compare(ps[i-1].Key, p.Key) >= 0 {
			return false, nil, 0
		}
	}
	return true, ps, deep
}

// twigs reads the first cell and all that is below it.
func twigs(tag int, cs []api.Cell) (*twig, []api.Cell, bool) {
	if len(cs) == 0 {
		return nil, nil, false
	}
	x := &twig{Cell: cs[0]}
	n := x.Kids
	switch {
	case x.Kind == api.BurstShelf:
		n = 0
	case n < 0 || n > 256 || tag == api.Ternary && n > 7:
		return nil, nil, false
	case tag == api.Ternary:
		n = []int{0, 1, 1, 2, 1, 2, 2, 3}[n]
	}
	cs = cs[1:]
	for range n {
		kid, behind, ok := twigs(tag, cs)
		if !ok {
			return nil, nil, false
		}
		x.kids, cs = append(x.kids, kid), behind
	}
	for _, kid := range x.kids {
		x.deep = max(x.deep, kid.deep)
	}
	x.deep++
	return x, cs, true
}

// only tells whether no other field is set than Kind, Count and these.
func only(c api.Cell, fields string) bool {
	for name, set := range map[string]bool{
		"At": c.At != 0, "Kids": c.Kids != 0, "Byte": c.Byte != 0, "Full": c.Full,
		"Val": c.Val != 0, "Key": len(c.Key) > 0, "Pairs": len(c.Pairs) > 0,
	} {
		if set && !slices.Contains(strings.Fields(fields), name) {
			return false
		}
	}
	return true
}

// asTold looks at a tree, and gathers its pairs.
func (x *twig) asTold(tag int) bool {
	switch tag {
	case api.Crit:
		return x.crit()
	case api.Ternary:
		return x.ternary("")
	case api.Radix:
		return x.radix()
	}
	return len(x.Key) == 0 && x.burst()
}

// bitOf tells a key's bit by writing all of them down.
func bitOf(k []byte, at int) byte {
	var all []byte
	for _, b := range k {
		all = append(all, 1)
		for i := 7; i >= 0; i-- {
			all = append(all, b>>i&1)
		}
	}
	if at >= len(all) {
		return 0
	}
	return all[at]
}

func (x *twig) crit() bool {
	if x.Kind == api.CritLeaf {
		x.ps = []api.Pair{{Key: x.Key, Val: x.Val}}
		return only(x.Cell, "Key Val") && x.Count == 1
	}
	if x.Kind != api.CritInner || !only(x.Cell, "At Kids") || x.Kids != 2 || x.At < 0 || x.At > api.MaxKey*9 {
		return false
	}
	for i, kid := range x.kids {
		if !kid.crit() || kid.Kind == api.CritInner && kid.At <= x.At {
			return false
		}
		for _, p := range kid.ps {
			if bitOf(p.Key, x.At) != byte(i) {
				return false
			}
		}
		x.ps = append(x.ps, kid.ps...)
	}
	for _, p := range x.ps {
		for at := range x.At {
			if bitOf(p.Key, at) != bitOf(x.ps[0].Key, at) {
				return false
			}
		}
	}
	return x.Count == len(x.ps)
}

// child is the one on this way, or nil.
func (x *twig) child(way int) *twig {
	at := 0
	for w := 1; w < way; w *= 2 {
		if x.Kids&w != 0 {
			at++
		}
	}
	if x.Kids&way == 0 {
		return nil
	}
	return x.kids[at]
}

// level are the bytes of x and of those below it by lesser and greater ways.
func (x *twig) level() []byte {
	if x == nil {
		return nil
	}
	return slices.Concat([]byte{x.Byte}, x.child(1).level(), x.child(4).level())
}

func (x *twig) ternary(way string) bool {
	if x.Kind != api.TernNode || x.Kids < 0 || x.Kids > 7 || x.At != len(way) || !x.Full && x.child(2) == nil {
		return false
	}
	if !only(x.Cell, "Byte At Full Kids Val") || !x.Full && x.Val != 0 {
		return false
	}
	for _, b := range x.child(1).level() {
		if b >= x.Byte {
			return false
		}
	}
	for _, b := range x.child(4).level() {
		if b <= x.Byte {
			return false
		}
	}
	on := way + string([]byte{x.Byte})
	if kid := x.child(1); kid != nil {
		if !kid.ternary(way) {
			return false
		}
		x.ps = append(x.ps, kid.ps...)
	}
	if x.Full {
		x.ps = append(x.ps, api.Pair{Key: []byte(on), Val: x.Val})
	}
	if kid := x.child(2); kid != nil {
		if !kid.ternary(on) {
			return false
		}
		x.ps = append(x.ps, kid.ps...)
	}
	if kid := x.child(4); kid != nil {
		if !kid.ternary(way) {
			return false
		}
		x.ps = append(x.ps, kid.ps...)
	}
	return x.Count == len(x.ps)
}

// ofKeys gathers the pairs of a node with a Key, and looks at its children's
// bytes.
func (x *twig) ofKeys(each func(*twig) bool) bool {
	if !only(x.Cell, "Key Full Val Kids") || !x.Full && x.Val != 0 {
		return false
	}
	if x.Full {
		x.ps = append(x.ps, api.Pair{Key: x.Key, Val: x.Val})
	}
	last := -1
	for _, kid := range x.kids {
		if !each(kid) || !bytes.HasPrefix(kid.Key, x.Key) || len(kid.Key) == len(x.Key) || int(kid.Key[len(x.Key)]) <= last {
			return false
		}
		last = int(kid.Key[len(x.Key)])
		x.ps = append(x.ps, kid.ps...)
	}
	return x.Count == len(x.ps)
}

func (x *twig) radix() bool {
	if x.Kind == api.RadixLeaf {
		x.ps = []api.Pair{{Key: x.Key, Val: x.Val}}
		return only(x.Cell, "Key Val") && x.Count == 1
	}
	least, most := 0, 0
	switch x.Kind {
	case api.Radix4:
		most = 4
	case api.Radix16:
		least, most = 4, 16
	case api.Radix48:
		least, most = 13, 48
	case api.Radix256:
		least, most = 41, 256
	}
	and := 0
	if x.Full {
		and = 1
	}
	if x.Kids < least || x.Kids > most || x.Kids+and < 2 || !x.ofKeys((*twig).radix) {
		return false
	}
	// The bytes that all of its keys begin with, as many as there are.
	n := len(x.ps[0].Key)
	for _, p := range x.ps {
		for !bytes.HasPrefix(p.Key, x.ps[0].Key[:n]) {
			n--
		}
	}
	return bytes.Equal(x.Key, x.ps[0].Key[:n])
}

func (x *twig) burst() bool {
	if x.Kind == api.BurstShelf {
		if !only(x.Cell, "Key Kids Pairs") || len(x.Pairs) < 1 || len(x.Pairs) > 8 || x.Kids != len(x.Pairs) || x.Count != len(x.Pairs) {
			return false
		}
		x.ps = x.Pairs
		for _, p := range x.ps {
			if !bytes.HasPrefix(p.Key, x.Key) {
				return false
			}
		}
		return true
	}
	if x.Kind != api.BurstNode || !x.ofKeys((*twig).burst) {
		return false
	}
	for _, kid := range x.kids {
		if len(kid.Key) != len(x.Key)+1 {
			return false
		}
	}
	return x.Count > 4
}
