package shape

import (
	"slices"

	"bramble/api"
	"bramble/key"
	"bramble/model"
)

// shelves tells whether each cell of a burst tree has the bytes on the way to
// it, and keys that begin so.
func (t tree) shelves() bool {
	for i, c := range t.cells {
		// On the way from cell to cell lies one byte, to the first one none.
		if len(c.Key) != t.spots[i].deep-1 || !t.goesOn(i) || !holds(c) {
			return false
		}
	}
	return true
}

// holds tells whether a shelf has pairs that begin with its Key, or a node too
// many keys for one that is a shelf again.
func holds(c api.Cell) bool {
	if c.Kind == api.BurstNode {
		return c.Count > api.ShelfLeft
	}
	astray := func(p api.Pair) bool { return !key.May(p.Key) || !key.Begins(p.Key, c.Key) }
	return !slices.ContainsFunc(c.Pairs, astray) && model.Rises(c.Pairs...)
}
