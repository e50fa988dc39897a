package critbit

import (
	"bramble/api"
	"bramble/store"
)

// none is the handle of no cell.
const none uint32 = 0

// The words of a leaf: the text of its key, and its value.
const (
	leafKey = iota
	leafVal
	leafWords
)

// The words of an inner cell: the bit by which it parts the keys below it, the
// child whose keys have a 0 there, the one with 1, and how many keys there are.
// A cell of so many words is an inner one.
const (
	innerAt = iota
	innerZero
	innerOne
	innerCount
	innerWords
)

// cells are what the tree has of cells; a nil tree has none.
func (t *Tree) cells() *store.Store {
	if t == nil {
		return nil
	}
	return t.kept
}

// top is the cell at the top; a nil tree has none.
func (t *Tree) top() uint32 {
	if t == nil {
		return none
	}
	return t.root
}

// leaf takes a cell for this key and this value.
func (t *Tree) leaf(k []byte, v uint64) uint32 { return t.kept.Take(t.kept.Keep(k), v) }

// join takes an inner cell that parts the keys of these two by this bit.
func (t *Tree) join(at int, zero uint32, one uint32) uint32 {
	return t.kept.Take(uint64(at), uint64(zero), uint64(one), uint64(t.count(zero)+t.count(one)))
}

// inner tells whether h is an inner cell.
func (t *Tree) inner(h uint32) bool { return t.cells().Size(h) == innerWords }

// key tells the key of a leaf.
func (t *Tree) key(leaf uint32) []byte { return t.kept.Text(t.kept.Word(leaf, leafKey)) }

// val tells the value of a leaf.
func (t *Tree) val(leaf uint32) uint64 { return t.kept.Word(leaf, leafVal) }

// setVal gives a leaf this value.
func (t *Tree) setVal(leaf uint32, v uint64) { t.kept.Set(leaf, leafVal, v) }

// pair tells the pair of a leaf.
func (t *Tree) pair(leaf uint32) api.Pair { return api.Pair{Key: t.key(leaf), Val: t.val(leaf)} }

// forget gives a leaf back, and its key.
func (t *Tree) forget(leaf uint32) {
	t.kept.Forget(t.kept.Word(leaf, leafKey))
	t.kept.Give(leaf)
}

// at tells the bit by which an inner cell parts its keys.
func (t *Tree) at(inner uint32) int { return int(t.kept.Word(inner, innerAt)) }

// child tells the child of an inner cell whose keys have this bit.
func (t *Tree) child(inner uint32, bit int) uint32 {
	return uint32(t.kept.Word(inner, innerZero+bit))
}

// setChild makes h that child.
func (t *Tree) setChild(inner uint32, bit int, h uint32) {
	t.kept.Set(inner, innerZero+bit, uint64(h))
}

// count tells how many keys there are in a cell and below it; 0 of none.
func (t *Tree) count(h uint32) int {
	switch t.cells().Size(h) {
	case 0:
		return 0
	case innerWords:
		return int(t.kept.Word(h, innerCount))
	}
	return 1
}

// setCount says of an inner cell how many keys there are below it.
func (t *Tree) setCount(inner uint32, n int) { t.kept.Set(inner, innerCount, uint64(n)) }

// cell tells a cell as it is shown.
func (t *Tree) cell(h uint32) api.Cell {
	if t.inner(h) {
		return api.Cell{Kind: api.CritInner, At: t.at(h), Kids: 2, Count: t.count(h)}
	}
	return api.Cell{Kind: api.CritLeaf, Key: t.key(h), Val: t.val(h), Count: 1}
}
