package critbit

import (
	"bramble/api"
	"bramble/key"
)

// place is where a cell hangs: below this inner one, as the child of this bit,
// or at the top, if over is none.
type place struct {
	over uint32
	bit  int
}

// hang makes h the cell of this place.
func (t *Tree) hang(p place, h uint32) {
	if p.over == none {
		t.root = h
		return
	}
	t.setChild(p.over, p.bit, h)
}

// add makes a leaf for k, which is not there, and which differs in bit at from
// the keys that are most like it.
func (t *Tree) add(k []byte, v uint64, at int) {
	leaf := t.leaf(k, v)
	if t.root == none {
		t.root = leaf
		return
	}
	p, h := place{}, t.root
	for over, bit := range t.way(k, at) {
		t.setCount(over, t.count(over)+1)
		p, h = place{over, bit}, t.child(over, bit)
	}
	if key.Bit(k, at) == 0 {
		t.hang(p, t.join(at, leaf, h))
	} else {
		t.hang(p, t.join(at, h, leaf))
	}
}

// remove takes away k's leaf, and the inner cell above it, in the stead of
// which the leaf's neighbour hangs then.
func (t *Tree) remove(k []byte, leaf uint32) {
	var up, p place
	for over, bit := range t.way(k, never) {
		t.setCount(over, t.count(over)-1)
		up, p = p, place{over, bit}
	}
	t.forget(leaf)
	if p.over == none {
		t.root = none
		return
	}
	t.hang(up, t.child(p.over, 1-p.bit))
	t.kept.Give(p.over)
}

// half is an inner cell to be, which has its first child alone as yet.
type half struct {
	at   int
	zero uint32
}

// grown makes the cells of these pairs, which rise, and tells the one at the
// top.
func (t *Tree) grown(ps []api.Pair) uint32 {
	// The cells above the last leaf, the lowest one last: what a next key
	// differs in from the last one tells which of them have all their keys.
	var open []half
	h := none
	finish := func(at int) {
		for len(open) > 0 && open[len(open)-1].at > at {
			last := open[len(open)-1]
			h = t.join(last.at, last.zero, h)
			open = open[:len(open)-1]
		}
	}
	for i, p := range ps {
		if i > 0 {
			at := key.Differ(ps[i-1].Key, p.Key)
			finish(at)
			open = append(open, half{at, h})
		}
		h = t.leaf(p.Key, p.Val)
	}
	finish(-1)
	return h
}
