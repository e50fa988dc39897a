package shape

import "bramble/api"

// none stands where no cell does.
const none = -1

// tree are cells, and where each of them stands.
type tree struct {
	cells []api.Cell
	spots []spot
}

// spot tells where a cell stands.
type spot struct {
	// over is the cell whose child it is, or none; nth tells which one of its
	// children, before is the one ahead of it, or none.
	over, nth, before int
	// deep is how many cells lie on the way to it, it too.
	deep int
}

// lay lays out the cells, and tells whether they are just those of a tree.
// Step by step, not by a call within a call: a tree may be as deep as it has
// cells.
func lay(cs []api.Cell) (tree, bool) {
	t := tree{cells: cs, spots: make([]spot, len(cs))}
	// Those are open some of whose children are yet to come, the last one's
	// first; last are their last children so far.
	var open []int
	last := make([]int, len(cs))
	for i, c := range cs {
		s := spot{over: none, before: none, deep: 1}
		last[i] = none
		switch n := len(open); {
		case n > 0:
			over := open[n-1]
			s = t.under(over, last[over])
			last[over] = i
			if s.nth+1 == below(cs[over]) {
				open = open[:n-1]
			}
		case !first(cs, i):
			return tree{}, false
		}
		t.spots[i] = s
		if below(c) > 0 {
			open = append(open, i)
		}
	}
	return t, len(open) == 0
}

// under is where the next child of this cell stands, behind the one before.
func (t tree) under(over int, before int) spot {
	s := spot{over: over, before: before, deep: t.spots[over].deep + 1}
	if before != none {
		s.nth = t.spots[before].nth + 1
	}
	return s
}

// first tells whether nothing stands above the i-th cell: it is the first one,
// or there is ahead of it just the key without bytes of a ternary tree.
func first(cs []api.Cell, i int) bool {
	return i == 0 || i == 1 && cs[0].Kind == api.TernEmpty
}

// counted tells whether each cell says how many keys are in it and below.
func (t tree) counted() bool {
	sums := make([]int, len(t.cells))
	// From the last one on: what is below a cell stands behind it.
	for i := len(t.cells) - 1; i >= 0; i-- {
		sums[i] += own(t.cells[i])
		if sums[i] != t.cells[i].Count {
			return false
		}
		if over := t.spots[i].over; over != none {
			sums[over] += sums[i]
		}
	}
	return true
}
