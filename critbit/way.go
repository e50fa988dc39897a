package critbit

import (
	"iter"
	"math"

	"bramble/api"
	"bramble/key"
)

// never stands for the bit in which keys differ that are the same: it is
// behind all.
const never = math.MaxInt

// byteBits is how many bits a key has of each byte, the first of which tells
// that there is such a byte.
const byteBits = 9

// near tells the leaf to which k's bits lead, and the first bit in which k and
// its key differ; no key of the tree is like k in more bits. There is no such
// leaf in a tree without keys.
func (t *Tree) near(k []byte) (uint32, int) {
	leaf := t.top()
	if leaf == none {
		return none, 0
	}
	for t.inner(leaf) {
		leaf = t.child(leaf, key.Bit(k, t.at(leaf)))
	}
	if at := key.Differ(t.key(leaf), k); at >= 0 {
		return leaf, at
	}
	return leaf, never
}

// way goes from the top down by k's bits, up to bit at: over the inner cells
// there, each with the bit that k has there.
func (t *Tree) way(k []byte, at int) iter.Seq2[uint32, int] {
	return func(yield func(uint32, int) bool) {
		for h := t.top(); t.inner(h) && t.at(h) < at; {
			bit := key.Bit(k, t.at(h))
			if !yield(h, bit) {
				return
			}
			h = t.child(h, bit)
		}
	}
}

// rising goes over the pairs by rising keys, from the i-th one on.
func (t *Tree) rising(i int) iter.Seq[api.Pair] {
	return func(yield func(api.Pair) bool) {
		for h := range t.shown(i) {
			if !t.inner(h) && !yield(t.pair(h)) {
				return
			}
		}
	}
}

// shown goes over the cells, each one ahead of those below it, first the child
// with a 0. The first keys, so many, are left out, and the cells below which
// there are no others.
func (t *Tree) shown(out int) iter.Seq[uint32] {
	return func(yield func(uint32) bool) {
		// Those yet to come, the next one last: step by step, not by a call
		// within a call, as a tree may be as deep as it has keys.
		open, left := []uint32{t.top()}, out
		for len(open) > 0 {
			h := open[len(open)-1]
			open = open[:len(open)-1]
			switch n := t.count(h); {
			case n <= left:
				left -= n
				continue
			case t.inner(h):
				open = append(open, t.child(h, 1), t.child(h, 0))
			}
			if !yield(h) {
				return
			}
		}
	}
}
