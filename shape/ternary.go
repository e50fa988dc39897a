package shape

import (
	"bramble/api"
	"bramble/pairs"
)

// room is what the place of a node leaves to it: how many bytes are on the way
// to it, and above and below which bytes its own one lies.
type room struct{ at, above, below int }

// wide is the room of a node to which a middle step leads, behind so many
// bytes: any byte may be there.
func wide(at int) room { return room{at: at, above: -1, below: 256} }

// spells tells whether each node stands where the ways from the first one on
// leave room for it.
func (t tree) spells() bool {
	rooms := make([]room, len(t.cells))
	for i, c := range t.cells {
		if c.Kind == api.TernEmpty {
			if i > 0 {
				return false
			}
			continue
		}
		rooms[i] = wide(0)
		if s := t.spots[i]; s.over != none {
			rooms[i] = left(t.cells[s.over], rooms[s.over], t.way(i))
		}
		if !fits(c, rooms[i]) {
			return false
		}
	}
	return true
}

// left is the room that is left to the child of c on this way.
func left(c api.Cell, r room, way int) room {
	switch way {
	case lesser:
		r.below = int(c.Byte)
	case greater:
		r.above = int(c.Byte)
	default:
		return wide(c.At + 1)
	}
	return r
}

// fits tells whether the node c may stand there. Its byte is one of a key: fewer
// than MaxKey are ahead of it.
func fits(c api.Cell, r room) bool {
	return c.At == r.at && c.At < api.MaxKey && r.above < int(c.Byte) && int(c.Byte) < r.below
}

// way tells on which of the ways from the cell above the i-th one stands.
func (t tree) way(i int) int {
	s := t.spots[i]
	kids := t.cells[s.over].Kids
	for range s.nth {
		kids &= kids - 1
	}
	return kids & -kids
}

// spelled tells the pairs of a ternary tree, by rising keys.
func (t tree) spelled() []api.Pair {
	all := make([]api.Pair, t.keys())
	// Preorder is not the order of the keys: a node's own one stands behind
	// those of its lesser child. from tells where those in it and below begin.
	from := make([]int, len(t.cells))
	var bytes []byte
	for i, c := range t.cells {
		from[i] = t.begins(from, i)
		if over := t.spots[i].over; over != none {
			// A middle child's way goes on by this byte, the others' end ahead of it.
			up := t.cells[over]
			bytes = append(bytes[:up.At], up.Byte)
		}
		switch {
		case c.Kind == api.TernEmpty:
			all[0] = pairs.Own(api.Pair{Val: c.Val})
		case c.Full:
			all[from[i]+t.lesserKeys(i)] = api.Pair{Key: word(bytes[:c.At], c.Byte), Val: c.Val}
		}
	}
	return all
}

// keys tells how many keys there are.
func (t tree) keys() int {
	n := 0
	for i, s := range t.spots {
		if s.over == none {
			n += t.cells[i].Count
		}
	}
	return n
}

// begins tells where the pairs in and below the i-th cell begin, if from tells
// it of those ahead.
func (t tree) begins(from []int, i int) int {
	over := t.spots[i].over
	if over == none {
		// The key without bytes, and behind it all others.
		return i
	}
	up := t.cells[over]
	switch t.way(i) {
	case lesser:
		return from[over]
	case middle:
		return from[over] + t.lesserKeys(over) + own(up)
	}
	return from[over] + up.Count - t.cells[i].Count
}

// lesserKeys tells how many keys there are in the lesser child of the i-th cell
// and below.
func (t tree) lesserKeys(i int) int {
	if t.cells[i].Kids&lesser == 0 {
		return 0
	}
	return t.cells[i+1].Count
}

// word makes a key of its own of these bytes and one more.
func word(bytes []byte, b byte) []byte {
	w := make([]byte, len(bytes)+1)
	copy(w, bytes)
	w[len(bytes)] = b
	return w
}
