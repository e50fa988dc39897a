package trees

import (
	"bytes"
	"math"
	"slices"
	"strings"
	"testing"

	"bramble/api"
)

func TestBuild(t *testing.T) {
	each(t, func(t *testing.T, x kind) {
		w := x.twin(t, plenty)
		for _, ks := range [][]string{{}, {"a"}, {""}, {"", "\x00"}, {"a", "ab"}, {}, {"a", "b", "c"}, {"ab\x00", "ab\x01"}, {"b"}} {
			if code := w.build(t, keyed(ks...)...); code != api.OK {
				x.fault(t, 3, "Build: code %d", code)
			}
			w.whole(t, askedKeys()...)
		}
		rising := keyed(someKeys()...)
		w.build(t, rising...)
		w.whole(t, askedKeys()...)
		// What is built goes on like what was put.
		for i, k := range askedKeys() {
			w.put(t, k, uint64(i))
			w.whole(t, k)
		}
		for _, k := range askedKeys() {
			w.drop(t, k)
			w.right(t)
		}
		w.build(t, pair("a", math.MaxUint64), pair("b", 0))
		w.whole(t)
	})
}

// What is refused leaves the tree as it was, whatever it has.
func TestBuildRefused(t *testing.T) {
	long := string(bytes.Repeat([]byte{0xff}, api.MaxKey+1))
	each(t, func(t *testing.T, x kind) {
		for _, there := range [][]string{{}, {"q"}, someKeys()} {
			w := x.twin(t, plenty, keyed(there...)...)
			for _, l := range []struct {
				ks   []string
				want api.Errno
			}{
				{[]string{"b", "a"}, api.ErrOrder},
				{[]string{"a", "a"}, api.ErrOrder},
				{[]string{"", ""}, api.ErrOrder},
				{[]string{"a", "b", "c", "c"}, api.ErrOrder},
				{[]string{"a", "ab", "aa"}, api.ErrOrder},
				{[]string{"a", ""}, api.ErrOrder},
				{[]string{"ab", "a"}, api.ErrOrder},
				{[]string{"a\x00", "a"}, api.ErrOrder},
				{[]string{long}, api.ErrLong},
				{[]string{"a", "b", long}, api.ErrLong},
				{[]string{"b", "a", long}, api.ErrLong},
				{[]string{long, long}, api.ErrLong},
				{[]string{long, "a"}, api.ErrLong},
			} {
				if code := w.build(t, keyed(l.ks...)...); code != l.want {
					x.fault(t, 1, "Build of %.50q: code %d, not %d", l.ks, code, l.want)
				}
				w.whole(t)
			}
			// Also where there is no room for them, the others come first.
			w = x.twin(t, 1)
			for _, l := range []struct {
				ks   []string
				want api.Errno
			}{{[]string{"ab", "bc", long}, api.ErrLong}, {[]string{"b", "ab", "c"}, api.ErrOrder}} {
				if code := w.build(t, keyed(l.ks...)...); code != l.want {
					x.fault(t, 1, "R6: Build of %.50q: code %d, not %d", l.ks, code, l.want)
				}
			}
		}
	})
}

// Of pairs for which as many cells are free as they may need the tree is
// built; where fewer are free, it may be that it is as it was.
func TestBuildRoom(t *testing.T) {
	each(t, func(t *testing.T, x kind) {
		for _, ks := range roomKeys() {
			slices.Sort(ks)
			ps := keyed(ks...)
			for _, there := range [][]api.Pair{nil, keyed("q", "r", "s"), ps} {
				live := x.twin(t, api.MaxCells, there...).tree.Live()
				w := x.twin(t, live+x.needsAll(ps), there...)
				w.build(t, ps...)
				w.whole(t)
				for fewer := range min(70, x.needsAll(ps)) {
					w := x.twin(t, live+fewer, there...)
					w.build(t, ps...)
					w.whole(t)
				}
			}
		}
	})
}

func TestBuildMixed(t *testing.T) {
	each(t, func(t *testing.T, x kind) {
		for seed := range 60 {
			c := chance(seed)
			w := x.twin(t, []int{0, 5, 20, 60, plenty}[seed%5], c.rising(20, 3)...)
			for range 6 {
				w.build(t, c.rising(30, 4)...)
				w.whole(t, c.key(4))
				for i := range 20 {
					w.put(t, c.key(4), uint64(i))
					w.drop(t, c.key(4))
				}
				w.right(t)
			}
		}
	})
}

// A tree that was built anew has cells and bytes enough, however often it was.
func TestBuildAgain(t *testing.T) {
	each(t, func(t *testing.T, x kind) {
		way := strings.Repeat("w", api.MaxKey-2)
		var ks []string
		for i := range 40 {
			ks = append(ks, way+string([]byte{byte(i), 'z'}))
		}
		w := x.twin(t, api.MaxCells)
		for range 10 {
			w.build(t, keyed(ks...)...)
		}
		w.right(t)
		w.asked(t, ks[7], 7)
	})
}
