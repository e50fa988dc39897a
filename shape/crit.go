package shape

import (
	"bramble/api"
	"bramble/key"
)

// parts tells whether each inner cell parts the keys below it by the first bit
// in which they differ.
func (t tree) parts() bool {
	// Where keys stand next to one another, so do a first child's last and a
	// second child's first one: if these are parted as they must be, and below
	// each inner cell only by greater bits, so are all others.
	leaf := none
	for i, c := range t.cells {
		if c.Kind == api.CritInner {
			if over := t.spots[i].over; over != none && c.At <= t.cells[over].At {
				return false
			}
			continue
		}
		if !key.May(c.Key) {
			return false
		}
		// What comes behind a leaf is a second child: the cell above that one
		// parts this leaf from the next one.
		if leaf != none && !parted(t.cells[leaf].Key, c.Key, t.cells[t.spots[leaf+1].over].At) {
			return false
		}
		leaf = i
	}
	return true
}

// parted tells whether a and b differ first in this bit, and a has the 0.
func parted(a []byte, b []byte, at int) bool {
	return key.Differ(a, b) == at && key.Bit(b, at) == 1
}
