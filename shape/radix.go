package shape

import "bramble/key"

// branches tells whether each cell of a radix tree has a key that goes on from
// the one above. A node has two children, or a key of its own and a child:
// that those go on by unlike bytes means that all of its keys begin with its
// Key, and with no more.
func (t tree) branches() bool {
	for i, c := range t.cells {
		if !key.May(c.Key) || !t.goesOn(i) {
			return false
		}
	}
	return true
}

// goesOn tells whether the Key of the i-th cell is that of the one above and
// goes on, by a greater byte than that of the child before. The cells ahead of
// it go on so.
func (t tree) goesOn(i int) bool {
	s := t.spots[i]
	if s.over == none {
		return true
	}
	k, up := t.cells[i].Key, t.cells[s.over].Key
	if len(k) <= len(up) || !key.Begins(k, up) {
		return false
	}
	return s.before == none || t.cells[s.before].Key[len(up)] < k[len(up)]
}
