package ternary

import (
	"bramble/api"
	"bramble/store"
)

// none is the handle of no cell.
const none uint32 = 0

// The words of a node: the value of its own key, the byte, 1 if its own key is
// there, the nodes to which its steps lead, and how many keys there are in it
// and below. The cell of the key without bytes has the first word alone.
const (
	nodeVal = iota
	nodeByte
	nodeFull
	nodeLesser
	nodeMiddle
	nodeGreater
	nodeCount
	nodeWords
)

// bareWords is how many words the cell of the key without bytes has.
const bareWords = 1

// The steps from a node; a key may end there, too.
const (
	lesser = iota
	middle
	greater
	here
)

// cells are what the tree has of cells; a nil tree has none.
func (t *Tree) cells() *store.Store {
	if t == nil {
		return nil
	}
	return t.kept
}

// top is the node at the top; a nil tree has none.
func (t *Tree) top() uint32 {
	if t == nil {
		return none
	}
	return t.root
}

// first is the cell of the key without bytes; a nil tree has none.
func (t *Tree) first() uint32 {
	if t == nil {
		return none
	}
	return t.bare
}

// node takes a cell for a node of this byte, which has so many keys in it and
// below, but no child yet, and no key of its own.
func (t *Tree) node(b byte, count int) uint32 {
	return t.kept.Take(0, uint64(b), 0, 0, 0, 0, uint64(count))
}

// val tells the value of a cell's own key.
func (t *Tree) val(h uint32) uint64 { return t.kept.Word(h, nodeVal) }

// setVal gives a cell's own key this value.
func (t *Tree) setVal(h uint32, v uint64) { t.kept.Set(h, nodeVal, v) }

// byte tells the byte of a node.
func (t *Tree) byte(h uint32) byte { return byte(t.kept.Word(h, nodeByte)) }

// full tells whether a node's own key is there.
func (t *Tree) full(h uint32) bool { return t.own(h) > 0 }

// own tells how many keys of its own a node has.
func (t *Tree) own(h uint32) int { return int(t.kept.Word(h, nodeFull)) }

// fill says that a node's own key is there, and has this value.
func (t *Tree) fill(h uint32, v uint64) {
	t.kept.Set(h, nodeFull, 1)
	t.setVal(h, v)
}

// empty says that a node's own key is not there.
func (t *Tree) empty(h uint32) {
	t.kept.Set(h, nodeFull, 0)
	t.setVal(h, 0)
}

// child tells to which node this step leads.
func (t *Tree) child(h uint32, side int) uint32 {
	return uint32(t.kept.Word(h, nodeLesser+side))
}

// setChild makes it lead to that one.
func (t *Tree) setChild(h uint32, side int, to uint32) {
	t.kept.Set(h, nodeLesser+side, uint64(to))
}

// alone tells whether a node has no alternatives below it.
func (t *Tree) alone(h uint32) bool {
	return t.child(h, lesser) == none && t.child(h, greater) == none
}

// count tells how many keys there are in a cell and below it; 0 of none.
func (t *Tree) count(h uint32) int {
	switch t.cells().Size(h) {
	case bareWords:
		return 1
	case nodeWords:
		return int(t.kept.Word(h, nodeCount))
	}
	return 0
}

// more says of a node that there are so many keys more in it and below.
func (t *Tree) more(h uint32, n int) { t.kept.Set(h, nodeCount, uint64(t.count(h)+n)) }

// cell tells a node, behind so many bytes, as it is shown.
func (t *Tree) cell(h uint32, at int) api.Cell {
	c := api.Cell{Kind: api.TernNode, Byte: t.byte(h), At: at, Full: t.full(h), Val: t.val(h), Count: t.count(h)}
	for _, side := range []int{lesser, middle, greater} {
		if t.child(h, side) != none {
			c.Kids += 1 << side
		}
	}
	return c
}
