package trees

import (
	"strings"
	"testing"

	"bramble/api"
)

// roomKeys are lists of keys that go in one behind the other.
func roomKeys() [][]string {
	way := strings.Repeat("w", 30)
	var nine, many []string
	for i := range 9 {
		nine = append(nine, way+string([]byte{byte(i)}))
	}
	for i := range 60 {
		many = append(many, string([]byte{byte(i * 4), byte(i % 3)}))
	}
	return [][]string{
		{"a", "b", "c"}, {"", "a", "ab", "abc", "abcd"}, {"abcd", "abc", "ab", "a", ""},
		{way, way + "a", way + "b"}, {"x", way, "y"}, nine, many,
	}
}

// A new key finds room wherever as many cells are free as it may need; one
// fewer, and it either goes in, or ErrFull is told and nothing changes.
func TestPutRoom(t *testing.T) {
	each(t, func(t *testing.T, x kind) {
		for _, ks := range roomKeys() {
			for n, k := range ks {
				there := keyed(ks[:n]...)
				live := x.twin(t, api.MaxCells, there...).tree.Live()
				w := x.twin(t, live+x.needs(k), there...)
				w.put(t, k, 7)
				w.whole(t, k)
				for fewer := range x.needs(k) {
					w := x.twin(t, live+fewer, there...)
					w.put(t, k, 7)
					w.whole(t, k)
				}
			}
		}
	})
}

// A key that is there has a new value also where there is no room for others.
func TestPutWithoutRoom(t *testing.T) {
	each(t, func(t *testing.T, x kind) {
		for _, ks := range roomKeys() {
			for most := range 130 {
				w := x.twin(t, most, keyed(ks...)...)
				for i, k := range ks {
					w.put(t, k, uint64(100+i))
				}
				w.put(t, "new", 1)
				w.put(t, strings.Repeat("l", api.MaxKey+1), 1)
				w.right(t)
				w.drop(t, ks[0])
				w.put(t, ks[0], 5)
				w.whole(t, ks[0])
			}
		}
	})
}

func TestNoCells(t *testing.T) {
	each(t, func(t *testing.T, x kind) {
		w := x.twin(t, 0)
		for _, k := range someKeys() {
			if code := w.put(t, k, 1); code != api.ErrFull {
				x.fault(t, 1, "Put(%q) without a cell: code %d", k, code)
			}
			w.drop(t, k)
		}
		if code := w.build(t, keyed("a")...); code != api.ErrFull {
			x.fault(t, 1, "Build without a cell: code %d", code)
		}
		if code := w.build(t); code != api.OK {
			x.fault(t, 3, "Build of none without a cell: code %d", code)
		}
		w.whole(t, someKeys()...)
	})
}

// As often as keys come and go, there is room for as many again.
func TestRoomComesBack(t *testing.T) {
	each(t, func(t *testing.T, x kind) {
		for _, ks := range roomKeys() {
			w := x.twin(t, x.needsAll(keyed(ks...)))
			for round := range 5 {
				for i, k := range ks {
					if code := w.put(t, k, uint64(i+round)); code != api.OK {
						x.fault(t, 3, "Put(%.20q), round %d: code %d", k, round, code)
					}
				}
				w.right(t)
				for i := range ks {
					w.drop(t, ks[(i+round)%len(ks)])
					w.right(t)
				}
			}
			if code := w.build(t); code != api.OK || w.tree.Live() != 0 {
				x.fault(t, 2, "%d cells are live, of no keys", w.tree.Live())
			}
		}
	})
}

// Where ErrFull is told, it is told also after room was made and taken again.
func TestMixedRoom(t *testing.T) {
	each(t, func(t *testing.T, x kind) {
		for most := range 40 {
			c := chance(most)
			w := x.twin(t, most)
			for i := range 150 {
				if k := c.key(3); c.below(3) == 0 {
					w.drop(t, k)
				} else {
					w.put(t, k, uint64(i))
				}
				w.right(t)
			}
			w.whole(t, someKeys()...)
			for _, p := range w.plain.All() {
				w.drop(t, string(p.Key))
			}
			w.right(t)
		}
	})
}
