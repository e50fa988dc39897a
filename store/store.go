// Package store: what the trees share: cells, so many as one gives them, and
// the bytes of their keys.
package store

import (
	"bramble/api"
	"bramble/arena"
	"bramble/span"
)

// handleBits is how many bits of a text's number are its handle in its pool;
// those above are the pool's number.
const handleBits = 32

// Store keeps at most so many cells as it was made for, and texts of however
// many bytes.
type Store struct {
	most  int
	cells *arena.Arena
	// pools are more than one if the texts are more than one pool may keep:
	// trees are to want room for want of cells alone.
	pools []*span.Pool
}

// New makes a store for most cells; nil, if it may not have so many.
func New(most int) *Store {
	cells := arena.New(most)
	if cells == nil {
		return nil
	}
	return &Store{most: most, cells: cells}
}

// Most tells how many cells there may be.
func (s *Store) Most() int {
	if s == nil {
		return 0
	}
	return s.most
}

// Live tells how many cells are taken.
func (s *Store) Live() int {
	if s == nil {
		return 0
	}
	return s.cells.Live()
}

// Take takes a cell that holds these words, and tells its handle; there must
// be one that is free.
func (s *Store) Take(words ...uint64) uint32 {
	h, _ := s.cells.Take(words...)
	return h
}

// Give gives cell h back.
func (s *Store) Give(h uint32) { s.cells.Give(h) }

// Size tells how many words cell h holds; none, if there is no such cell.
func (s *Store) Size(h uint32) int {
	if s == nil {
		return 0
	}
	return s.cells.Size(h)
}

// Word tells the i-th word of cell h.
func (s *Store) Word(h uint32, i int) uint64 {
	w, _ := s.cells.Get(h, i)
	return w
}

// Set makes w the i-th word of cell h.
func (s *Store) Set(h uint32, i int, w uint64) { s.cells.Set(h, i, w) }

// Keep keeps a text of these bytes, and tells its number; they must be no more
// than a key's may be.
func (s *Store) Keep(b []byte) uint64 {
	for i, p := range s.pools {
		if h, code := p.Put(b); code == api.OK {
			return number(i, h)
		}
	}
	p := span.New(api.MaxSpan)
	s.pools = append(s.pools, p)
	h, _ := p.Put(b)
	return number(len(s.pools)-1, h)
}

// Text tells the bytes of this text.
func (s *Store) Text(text uint64) []byte {
	b, _ := s.pool(text).Get(uint32(text))
	return b
}

// Forget lets this text go.
func (s *Store) Forget(text uint64) { s.pool(text).Drop(uint32(text)) }

// pool is the pool that keeps this text; there must be such a text.
func (s *Store) pool(text uint64) *span.Pool { return s.pools[text>>handleBits] }

// number is the number of the text with this handle in that pool.
func number(pool int, h uint32) uint64 { return uint64(pool)<<handleBits | uint64(h) }
