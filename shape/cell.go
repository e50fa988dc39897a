package shape

import (
	"math/bits"

	"bramble/api"
)

// A node of a ternary tree has up to three children; Kids is the sum of these.
const (
	lesser  = 1
	middle  = 2
	greater = 4
)

// tagOf tells the kind of trees that has such cells; 0, if none has.
func tagOf(kind int) int {
	switch kind {
	case api.CritLeaf, api.CritInner:
		return api.Crit
	case api.TernEmpty, api.TernNode:
		return api.Ternary
	case api.RadixLeaf, api.Radix4, api.Radix16, api.Radix48, api.Radix256:
		return api.Radix
	case api.BurstNode, api.BurstShelf:
		return api.Burst
	}
	return 0
}

// bare tells whether the fields are zero that cells of this kind do not have.
func bare(c api.Cell) bool {
	c = others(c)
	return c.At == 0 && c.Kids == 0 && c.Byte == 0 && !c.Full && c.Val == 0 && len(c.Key) == 0 && len(c.Pairs) == 0
}

// others is c without the fields that cells of its kind have.
func others(c api.Cell) api.Cell {
	if c.Full {
		// It is the value of the node's own key: without one it has none.
		c.Val = 0
	}
	switch c.Kind {
	case api.CritLeaf, api.RadixLeaf:
		c.Key, c.Val = nil, 0
	case api.CritInner:
		c.At, c.Kids = 0, 0
	case api.TernEmpty:
		c.Val = 0
	case api.TernNode:
		c.Byte, c.At, c.Full, c.Kids = 0, 0, false, 0
	case api.Radix4, api.Radix16, api.Radix48, api.Radix256, api.BurstNode:
		c.Key, c.Full, c.Kids = nil, false, 0
	case api.BurstShelf:
		c.Key, c.Kids, c.Pairs = nil, 0, nil
	}
	return c
}

// kidsFit tells whether a cell of this kind may say so of its children; those
// that have none say so by a field that is not theirs.
func kidsFit(c api.Cell) bool {
	switch c.Kind {
	case api.CritInner:
		return c.Kids == 2
	case api.TernNode:
		return within(c.Kids, 0, lesser+middle+greater) && (c.Full || c.Kids&middle != 0)
	case api.Radix4:
		return within(c.Kids, 2-own(c), 4)
	case api.Radix16:
		return within(c.Kids, 4, 16)
	case api.Radix48:
		return within(c.Kids, 13, 48)
	case api.Radix256:
		return within(c.Kids, 41, 256)
	case api.BurstNode:
		return within(c.Kids, 1, 256)
	case api.BurstShelf:
		return c.Kids == len(c.Pairs) && within(c.Kids, 1, api.ShelfMost)
	}
	return true
}

// below tells how many children a cell has.
func below(c api.Cell) int {
	switch c.Kind {
	case api.TernNode:
		return bits.OnesCount(uint(c.Kids))
	case api.BurstShelf:
		return 0
	}
	return c.Kids
}

// own tells how many keys are in a cell itself.
func own(c api.Cell) int {
	switch c.Kind {
	case api.CritLeaf, api.TernEmpty, api.RadixLeaf:
		return 1
	case api.BurstShelf:
		return len(c.Pairs)
	}
	if c.Full {
		return 1
	}
	return 0
}

// within tells whether n is from low to high.
func within(n, low, high int) bool { return low <= n && n <= high }
