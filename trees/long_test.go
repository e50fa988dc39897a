package trees

import (
	"strings"
	"testing"

	"bramble/api"
)

// The longest key that may be, and one that may not, for every call.
func TestLong(t *testing.T) {
	longest := strings.Repeat("a", api.MaxKey)
	tooLong := longest + "a"
	each(t, func(t *testing.T, x kind) {
		w := x.twin(t, api.MaxCells)
		if code := w.put(t, tooLong, 1); code != api.ErrLong {
			x.fault(t, 1, "Put of a key that is too long: code %d", code)
		}
		w.whole(t, tooLong, longest)
		for i, k := range []string{longest, longest[1:], "aaa", longest[:api.MaxKey-1] + "\x00", "b", longest[:api.MaxKey-1] + "b"} {
			if code := w.put(t, k, uint64(i)); code != api.OK {
				x.fault(t, 3, "Put(%.20q): code %d", k, code)
			}
		}
		others := []string{tooLong, longest + "\x00", longest + "b", tooLong[1:] + "b", "b" + longest, "bb" + longest, longest[2:]}
		w.whole(t, others...)
		if code := w.put(t, tooLong, 1); code != api.ErrLong {
			x.fault(t, 1, "Put of a key that is too long: code %d", code)
		}
		w.right(t)
		for _, k := range others {
			w.drop(t, k)
		}
		w.whole(t)
		for _, k := range []string{longest, "aaa", longest[1:]} {
			w.drop(t, k)
			w.whole(t, k, tooLong)
		}
		if code := w.build(t, keyed("", "a", longest, longest[:api.MaxKey-1]+"b")...); code != api.OK {
			x.fault(t, 3, "Build: code %d", code)
		}
		w.whole(t, others...)
	})
}

// Keys that begin one another, so that the tree is as deep as it has keys.
func TestDeep(t *testing.T) {
	const keys = 700
	each(t, func(t *testing.T, x kind) {
		run := strings.Repeat("a", keys-1)
		for name, at := range map[string]func(i int) int{
			"rising":  func(i int) int { return i },
			"falling": func(i int) int { return keys - 1 - i },
			"mixed":   func(i int) int { return i * 11 % keys },
		} {
			w := x.twin(t, 4*keys)
			for i := range keys {
				if code := w.put(t, run[:at(i)], uint64(i)); code != api.OK {
					x.fault(t, 3, "%s: Put: code %d", name, code)
				}
			}
			w.right(t)
			for i := 0; i < keys; i += 30 {
				for _, end := range []string{"", "\x00", "b"} {
					w.asked(t, run[:i]+end, i)
				}
			}
			for i := range keys {
				w.drop(t, run[:at(keys-1-i)])
				if i%50 == 0 {
					w.right(t)
					w.asked(t, run, i)
				}
			}
			w.right(t)
		}
	})
}

// More keys' bytes than one pool of span keeps: it is cells alone that may be
// wanting.
func TestManyBytes(t *testing.T) {
	const keys = api.MaxSpan/api.MaxKey + 10
	each(t, func(t *testing.T, x kind) {
		way := strings.Repeat("w", api.MaxKey-2)
		nth := func(i int) string { return way + string([]byte{byte(i >> 4), byte(i & 15)}) }
		w := x.twin(t, api.MaxCells)
		for i := range keys {
			if code := w.put(t, nth(i), uint64(i)); code != api.OK {
				x.fault(t, 3, "the %d-th Put of a long key: code %d", i, code)
			}
		}
		w.right(t)
		for i := 0; i < keys; i += 20 {
			w.asked(t, nth(i), i)
		}
		for i := 0; i < keys; i += 2 {
			w.drop(t, nth(i))
		}
		w.right(t)
		for i := 0; i < keys; i += 2 {
			w.put(t, nth(i), uint64(i))
		}
		w.build(t, w.plain.All()...)
		w.right(t)
		w.asked(t, nth(keys-1), keys-1)
	})
}
