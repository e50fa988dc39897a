package trees

import (
	"strings"
	"testing"

	"bramble/api"
)

// Long runs of what is put and dropped, and all questions between.
func TestMixed(t *testing.T) {
	each(t, func(t *testing.T, x kind) {
		for seed := range 24 {
			c := chance(seed)
			long := 1 + seed%6
			way := strings.Repeat("the same way", seed%3)
			w := x.twin(t, 20*plenty)
			for i := range 400 {
				k := way + c.key(long)
				// For a while more is put than dropped, then the other way round.
				if c.below(4) < 1+i/100%2*2 {
					w.drop(t, k)
				} else if code := w.put(t, k, uint64(c.below(9))); code != api.OK {
					x.fault(t, 3, "Put(%q): code %d", k, code)
				}
				w.right(t)
				w.asked(t, k, i%30-2)
				w.asked(t, way+c.key(long), 3)
				w.asked(t, c.key(long), i)
			}
			w.whole(t, someKeys()...)
		}
	})
}

// Trees of thousands of keys.
func TestMany(t *testing.T) {
	const keys = 6000
	each(t, func(t *testing.T, x kind) {
		w := x.twin(t, api.MaxCells)
		c := chance(7)
		for i := range keys {
			w.put(t, string([]byte{byte(c.below(256)), byte(c.below(256)), byte(i)}), uint64(i))
		}
		w.right(t)
		for i := range keys {
			if i%10 == 0 {
				w.asked(t, c.key(3), i)
			}
			if p, ok := w.plain.Select(c.below(keys)); ok && i%2 == 0 {
				w.drop(t, string(p.Key))
			}
		}
		w.right(t)
		all := w.plain.All()
		if code := w.build(t, all[:len(all)/2]...); code != api.OK {
			x.fault(t, 3, "Build: code %d", code)
		}
		w.right(t)
		for i := range keys / 10 {
			w.asked(t, c.key(3), i*10)
		}
	})
}
