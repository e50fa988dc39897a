package ternary

import (
	"iter"

	"bramble/api"
	"bramble/pairs"
)

// meets tells whether a key has a node's byte, if it goes on from there by this
// step, or ends.
func meets(side int) bool { return side == middle || side == here }

// side tells by which step k, which has met at bytes, goes on from a node.
func (t *Tree) side(h uint32, k []byte, at int) int {
	switch b := t.byte(h); {
	case k[at] < b:
		return lesser
	case k[at] > b:
		return greater
	case at == len(k)-1:
		return here
	}
	return middle
}

// way goes from the top down by k's bytes: over the nodes there, each with the
// step by which k goes on, or would; here is the last one. A key without bytes
// goes nowhere.
func (t *Tree) way(k []byte) iter.Seq2[uint32, int] {
	return func(yield func(uint32, int) bool) {
		if len(k) == 0 {
			return
		}
		for h, at := t.top(), 0; h != none; {
			side := t.side(h, k, at)
			if !yield(h, side) || side == here {
				return
			}
			if side == middle {
				at++
			}
			h = t.child(h, side)
		}
	}
}

// find tells the cell that has k's value; none, if k is not there.
func (t *Tree) find(k []byte) uint32 {
	if len(k) == 0 {
		return t.first()
	}
	for h, side := range t.way(k) {
		if side == here && t.full(h) {
			return h
		}
	}
	return none
}

// wants tells how many cells k, which is not there, would take.
func (t *Tree) wants(k []byte) int {
	if len(k) == 0 {
		return 1
	}
	met := 0
	for _, side := range t.way(k) {
		if meets(side) {
			met++
		}
	}
	return len(k) - met
}

// spot is a node, and how many bytes are on the way to it. Of an open one the
// nodes below it have spots of their own.
type spot struct {
	node uint32
	at   int
	open bool
}

// shown goes over the nodes, each one ahead of those below it, and tells how
// many bytes are on the way to it.
func (t *Tree) shown() iter.Seq2[uint32, int] {
	return func(yield func(uint32, int) bool) {
		// Those yet to come, the next one last: step by step, not by a call
		// within a call, as a tree may be as deep as its keys are long.
		left := push(nil, t.top(), 0)
		for len(left) > 0 {
			s := left[len(left)-1]
			left = left[:len(left)-1]
			if !yield(s.node, s.at) {
				return
			}
			left = push(left, t.child(s.node, greater), s.at)
			left = push(left, t.child(s.node, middle), s.at+1)
			left = push(left, t.child(s.node, lesser), s.at)
		}
	}
}

// rising goes over the pairs by rising keys, from the i-th one on.
func (t *Tree) rising(i int) iter.Seq[api.Pair] {
	return func(yield func(api.Pair) bool) {
		out := i
		tell := func(k []byte, h uint32) bool {
			if out > 0 {
				out--
				return true
			}
			return yield(pairs.Own(api.Pair{Key: k, Val: t.val(h)}))
		}
		if h := t.first(); h != none && !tell(nil, h) {
			return
		}
		var way []byte
		left := push(nil, t.top(), 0)
		for len(left) > 0 {
			s := left[len(left)-1]
			left = left[:len(left)-1]
			switch n := t.count(s.node); {
			case s.open:
				// Of the keys to come those in its middle go on by its byte.
				way = append(way[:s.at], t.byte(s.node))
				if t.full(s.node) && !tell(way, s.node) {
					return
				}
			case n <= out:
				out -= n
			default:
				left = push(left, t.child(s.node, greater), s.at)
				left = push(left, t.child(s.node, middle), s.at+1)
				left = append(left, spot{s.node, s.at, true})
				left = push(left, t.child(s.node, lesser), s.at)
			}
		}
	}
}

// push puts a node, if it is one, behind those that are yet to come.
func push(left []spot, h uint32, at int) []spot {
	if h == none {
		return left
	}
	return append(left, spot{node: h, at: at})
}
