package ternary

import (
	"bramble/api"
	"bramble/pairs"
)

// place is where a node hangs: this step leads to it from that node, or it is
// the one at the top, if over is none.
type place struct {
	over uint32
	side int
}

// hang makes h the node of this place.
func (t *Tree) hang(p place, h uint32) {
	if p.over == none {
		t.root = h
		return
	}
	t.setChild(p.over, p.side, h)
}

// add makes the nodes that k wants, which is not there.
func (t *Tree) add(k []byte, v uint64) {
	if len(k) == 0 {
		t.bare = t.kept.Take(v)
		return
	}
	p, met := place{}, 0
	for h, side := range t.way(k) {
		t.more(h, 1)
		if side == here {
			t.fill(h, v)
			return
		}
		if side == middle {
			met++
		}
		p = place{h, side}
	}
	for _, b := range k[met:] {
		h := t.node(b, 1)
		t.hang(p, h)
		p = place{h, middle}
	}
	t.fill(p.over, v)
}

// remove takes k out, which is there, in this cell.
func (t *Tree) remove(k []byte, h uint32) {
	if len(k) == 0 {
		t.kept.Give(h)
		t.bare = none
		return
	}
	t.empty(h)
	p, up := place{}, place{}
	for over, side := range t.way(k) {
		t.more(over, -1)
		// Nodes that have nothing but the next one go with it.
		if up.side != middle || t.full(up.over) || !t.alone(over) {
			p = up
		}
		up = place{over, side}
	}
	if t.child(h, middle) == none {
		t.cut(p)
	}
}

// cut takes away the node of this place, and those to which middle steps lead
// from it: none of them has a key.
func (t *Tree) cut(p place) {
	h := t.root
	if p.over != none {
		h = t.child(p.over, p.side)
	}
	t.hang(p, t.joined(t.child(h, lesser), t.child(h, greater)))
	for h != none {
		next := t.child(h, middle)
		t.kept.Give(h)
		h = next
	}
}

// joined makes one node, and what is below it, of two whose alternatives stand
// ahead of one another, and tells it.
func (t *Tree) joined(low uint32, high uint32) uint32 {
	switch {
	case low == none:
		return high
	case high == none:
		return low
	}
	least, rest := t.leastOf(high)
	t.setChild(least, lesser, low)
	t.setChild(least, greater, rest)
	t.more(least, t.count(low)+t.count(rest))
	return least
}

// leastOf parts the least of a node's alternatives from the others, and tells
// it, and the node of the others; those that it still leads to are among these.
func (t *Tree) leastOf(h uint32) (uint32, uint32) {
	var over []uint32
	least := h
	for t.child(least, lesser) != none {
		over = append(over, least)
		least = t.child(least, lesser)
	}
	rest := t.child(least, greater)
	t.more(least, -t.count(rest))
	if len(over) == 0 {
		return least, rest
	}
	for _, o := range over {
		t.more(o, -t.count(least))
	}
	t.setChild(over[len(over)-1], lesser, rest)
	return least, h
}

// takes tells how many cells these pairs take, which rise: each key one a byte
// that it has not in common with the one before it.
func takes(ps []api.Pair) int {
	cells := 0
	var last []byte
	for _, p := range ps {
		if len(p.Key) == 0 {
			cells++
		}
		cells += len(p.Key) - pairs.Shared(last, p.Key)
		last = p.Key
	}
	return cells
}

// branch are pairs that rise, the place in which the node of their next bytes
// is to hang, and how many bytes are on the way to it: in those they are alike.
type branch struct {
	place
	at int
	ps []api.Pair
}

// grow makes the cells of these pairs, which rise; there must be none yet.
func (t *Tree) grow(ps []api.Pair) {
	t.bare = none
	if len(ps) > 0 && len(ps[0].Key) == 0 {
		t.bare = t.kept.Take(ps[0].Val)
		ps = ps[1:]
	}
	left := []branch{{ps: ps}}
	for len(left) > 0 {
		b := left[len(left)-1]
		left = left[:len(left)-1]
		h, below := t.choice(parted(b.ps, b.at), b.at)
		t.hang(b.place, h)
		left = append(left, below...)
	}
}

// parted parts pairs by their next byte.
func parted(ps []api.Pair, at int) [][]api.Pair {
	var parts [][]api.Pair
	from := 0
	for i := range ps {
		if i+1 == len(ps) || ps[i].Key[at] != ps[i+1].Key[at] {
			parts = append(parts, ps[from:i+1])
			from = i + 1
		}
	}
	return parts
}

// choice makes the nodes of these parts' next bytes, and tells the one at their
// top, and what is to hang from their middle steps.
func (t *Tree) choice(parts [][]api.Pair, at int) (uint32, []branch) {
	if len(parts) == 0 {
		return none, nil
	}
	// The one in the middle is at the top: of 256 none lies deeper than 9.
	mid := len(parts) / 2
	low, below := t.choice(parts[:mid], at)
	high, more := t.choice(parts[mid+1:], at)
	below = append(below, more...)
	ps := parts[mid]
	h := t.node(ps[0].Key[at], t.count(low)+len(ps)+t.count(high))
	t.setChild(h, lesser, low)
	t.setChild(h, greater, high)
	if len(ps[0].Key) == at+1 {
		t.fill(h, ps[0].Val)
		ps = ps[1:]
	}
	if len(ps) > 0 {
		below = append(below, branch{place{h, middle}, at + 1, ps})
	}
	return h, below
}
