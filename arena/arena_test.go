package arena

import (
	"math"
	"slices"
	"sync"
	"testing"

	"bramble/api"
)

// words makes n words that are told by a number.
func words(n int, seed uint64) []uint64 {
	all := make([]uint64, n)
	for i := range all {
		all[i] = seed*1000 + uint64(i)
	}
	return all
}

// take takes a cell, which must be want.
func take(t *testing.T, a *Arena, want uint32, ws ...uint64) {
	t.Helper()
	if h, code := a.Take(ws...); h != want || code != api.OK {
		t.Fatalf("P5.1: Take of %d words: %d, code %d; not %d", len(ws), h, code, want)
	}
}

// refuse asks for a cell, and must get this code.
func refuse(t *testing.T, a *Arena, want api.Errno, ws ...uint64) {
	t.Helper()
	if h, code := a.Take(ws...); h != 0 || code != want {
		t.Fatalf("P5.1: Take of %d words: %d, code %d; not 0, code %d", len(ws), h, code, want)
	}
}

// give gives a cell back, and must get this code.
func give(t *testing.T, a *Arena, h uint32, want api.Errno) {
	t.Helper()
	if code := a.Give(h); code != want {
		t.Fatalf("P5.1: Give(%d): code %d, not %d", h, code, want)
	}
}

// holds looks whether cell h holds these words, just so many of them.
func holds(t *testing.T, a *Arena, h uint32, want ...uint64) {
	t.Helper()
	if n := a.Size(h); n != len(want) {
		t.Fatalf("P5.1: Size(%d): %d, not %d", h, n, len(want))
	}
	for i, w := range want {
		if got, code := a.Get(h, i); got != w || code != api.OK {
			t.Fatalf("P5.1: Get(%d, %d): %d, code %d; not %d", h, i, got, code, w)
		}
	}
	for _, i := range []int{math.MinInt, -1 << 32, -2, -1, len(want), len(want) + 1, 64, 65, 1 << 32, math.MaxInt} {
		if 0 <= i && i < len(want) {
			continue
		}
		if got, code := a.Get(h, i); got != 0 || code != api.ErrArg {
			t.Fatalf("P5.1: Get(%d, %d) of %d words: %d, code %d", h, i, len(want), got, code)
		}
	}
}

// gone looks whether each call tells that there is no cell h, wherever in it.
func gone(t *testing.T, a *Arena, h uint32) {
	t.Helper()
	for _, i := range []int{math.MinInt, -1, 0, 1, 63, 64, math.MaxInt} {
		if w, code := a.Get(h, i); w != 0 || code != api.ErrNone {
			t.Errorf("P5.1: Get(%d, %d) of no cell: %d, code %d", h, i, w, code)
		}
		if code := a.Set(h, i, 5); code != api.ErrNone {
			t.Errorf("P5.1: Set(%d, %d) of no cell: code %d", h, i, code)
		}
	}
	if n := a.Size(h); n != 0 {
		t.Errorf("P5.1: Size(%d) of no cell: %d", h, n)
	}
	give(t, a, h, api.ErrNone)
}

// tells looks whether of an arena of most cells just these are taken.
func tells(t *testing.T, a *Arena, most int, want ...uint32) {
	t.Helper()
	if live, free := a.Live(), a.Free(); live != len(want) || free != most-len(want) {
		t.Fatalf("P5.1: Live %d, Free %d; not %d of %d", live, free, len(want), most)
	}
	if got := a.Handles(); !slices.Equal(got, want) {
		t.Fatalf("P5.1: Handles: %v, not %v", got, want)
	}
}

func TestExample(t *testing.T) {
	a := New(2)
	take(t, a, 1)
	take(t, a, 2)
	give(t, a, 1, api.OK)
	take(t, a, 1)
}

func TestNew(t *testing.T) {
	for _, most := range []int{math.MinInt, -1 << 32, -2, -1, api.MaxCells + 1, api.MaxCells + 2, 1 << 32, math.MaxInt} {
		if New(most) != nil {
			t.Errorf("P5.1: New(%d) is not nil", most)
		}
	}
	for _, most := range []int{0, 1, 2, 3, 64, api.MaxCells - 1, api.MaxCells} {
		a := New(most)
		if a == nil {
			t.Fatalf("P5.1: New(%d) is nil", most)
		}
		tells(t, a, most)
		for _, h := range []uint32{0, 1, 2, math.MaxUint32} {
			gone(t, a, h)
		}
	}
}

func TestTwoArenas(t *testing.T) {
	a, b := New(2), New(2)
	take(t, a, 1, 7)
	tells(t, b, 2)
	gone(t, b, 1)
	take(t, b, 1, 8)
	holds(t, a, 1, 7)
	holds(t, b, 1, 8)
	give(t, a, 1, api.OK)
	holds(t, b, 1, 8)
}

func TestNoCells(t *testing.T) {
	a := New(0)
	refuse(t, a, api.ErrFull)
	refuse(t, a, api.ErrFull, 1)
	refuse(t, a, api.ErrFull, words(64, 1)...)
	refuse(t, a, api.ErrArg, words(65, 1)...)
	tells(t, a, 0)
	gone(t, a, 1)
}

func TestOneCell(t *testing.T) {
	a := New(1)
	for round := range 5 {
		take(t, a, 1, words(round, 3)...)
		tells(t, a, 1, 1)
		refuse(t, a, api.ErrFull)
		holds(t, a, 1, words(round, 3)...)
		give(t, a, 1, api.OK)
		tells(t, a, 1)
		gone(t, a, 1)
	}
}

func TestTakeOfManyWords(t *testing.T) {
	a := New(65)
	for n := range 65 {
		take(t, a, uint32(n+1), words(n, uint64(n))...)
	}
	for n := range 65 {
		holds(t, a, uint32(n+1), words(n, uint64(n))...)
	}
	b := New(2)
	for _, n := range []int{65, 66, 128, 1 << 16} {
		refuse(t, b, api.ErrArg, make([]uint64, n)...)
		tells(t, b, 2)
	}
	take(t, b, 1, nil...)
	take(t, b, 2, []uint64{}...)
	holds(t, b, 1)
	holds(t, b, 2)
	tells(t, b, 2, 1, 2)
}

func TestTakeWithoutRoom(t *testing.T) {
	a := New(3)
	for i := range 3 {
		take(t, a, uint32(i+1), uint64(i), 9)
	}
	for range 2 {
		refuse(t, a, api.ErrFull)
		refuse(t, a, api.ErrFull, words(64, 1)...)
		// Too many words are told ahead of want of room (R6).
		refuse(t, a, api.ErrArg, words(65, 1)...)
		tells(t, a, 3, 1, 2, 3)
	}
	for i := range 3 {
		holds(t, a, uint32(i+1), uint64(i), 9)
	}
	give(t, a, 2, api.OK)
	refuse(t, a, api.ErrArg, words(65, 1)...)
	take(t, a, 2, 5)
	refuse(t, a, api.ErrFull, 1)
	holds(t, a, 2, 5)
}

func TestRefusalsTakeNoHandle(t *testing.T) {
	a := New(4)
	take(t, a, 1)
	refuse(t, a, api.ErrArg, words(65, 1)...)
	take(t, a, 2)
	give(t, a, 1, api.OK)
	refuse(t, a, api.ErrArg, words(65, 1)...)
	give(t, a, 1, api.ErrNone)
	give(t, a, 3, api.ErrNone)
	give(t, a, 0, api.ErrNone)
	take(t, a, 1)
	take(t, a, 3)
	take(t, a, 4)
	refuse(t, a, api.ErrFull)
}

func TestTheLastGivenBackIsTakenFirst(t *testing.T) {
	a := New(8)
	for h := uint32(1); h <= 5; h++ {
		take(t, a, h, uint64(h))
	}
	for _, h := range []uint32{2, 5, 1} {
		give(t, a, h, api.OK)
	}
	tells(t, a, 8, 3, 4)
	take(t, a, 1, 11)
	take(t, a, 5, 15)
	give(t, a, 3, api.OK)
	take(t, a, 3, 13)
	take(t, a, 2, 12)
	take(t, a, 6, 16)
	give(t, a, 6, api.OK)
	give(t, a, 4, api.OK)
	take(t, a, 4, 14)
	take(t, a, 6)
	take(t, a, 7)
	take(t, a, 8)
	refuse(t, a, api.ErrFull)
	tells(t, a, 8, 1, 2, 3, 4, 5, 6, 7, 8)
	for h := uint32(1); h <= 5; h++ {
		holds(t, a, h, uint64(10+h))
	}
}

func TestHandlesThatAreNone(t *testing.T) {
	a := New(5)
	for h := uint32(1); h <= 3; h++ {
		take(t, a, h, words(2, uint64(h))...)
	}
	give(t, a, 2, api.OK)
	for _, h := range []uint32{0, 2, 4, 5, 6, 1<<16 + 1, api.MaxCells, api.MaxCells + 1, 1 << 31, 1<<31 + 1, math.MaxUint32 - 1, math.MaxUint32} {
		gone(t, a, h)
		gone(t, a, h)
	}
	tells(t, a, 5, 1, 3)
	holds(t, a, 1, words(2, 1)...)
	holds(t, a, 3, words(2, 3)...)
	take(t, a, 2)
	take(t, a, 4)
}

func TestGiveForgetsTheWords(t *testing.T) {
	a := New(2)
	take(t, a, 1, words(64, 1)...)
	give(t, a, 1, api.OK)
	gone(t, a, 1)
	take(t, a, 1)
	holds(t, a, 1)
	give(t, a, 1, api.OK)
	take(t, a, 1, 4, 0)
	holds(t, a, 1, 4, 0)
}

func TestSet(t *testing.T) {
	a := New(3)
	take(t, a, 1, 1, 2, 3)
	take(t, a, 2)
	take(t, a, 3, 4)
	for _, c := range []struct {
		h    uint32
		i    int
		w    uint64
		want api.Errno
	}{
		{1, 0, math.MaxUint64, api.OK},
		{1, 2, 0, api.OK},
		{1, 3, 5, api.ErrArg},
		{1, -1, 5, api.ErrArg},
		{1, math.MaxInt, 5, api.ErrArg},
		{1, math.MinInt, 5, api.ErrArg},
		{2, 0, 5, api.ErrArg},
		{2, -1, 5, api.ErrArg},
		{2, 1, 5, api.ErrArg},
		{3, 1, 5, api.ErrArg},
		{3, 1 << 32, 5, api.ErrArg},
		{3, -1 << 32, 5, api.ErrArg},
	} {
		if code := a.Set(c.h, c.i, c.w); code != c.want {
			t.Errorf("P5.1: Set(%d, %d, %d): code %d, not %d", c.h, c.i, c.w, code, c.want)
		}
	}
	holds(t, a, 1, math.MaxUint64, 2, 0)
	holds(t, a, 2)
	holds(t, a, 3, 4)
	tells(t, a, 3, 1, 2, 3)
}

func TestSetOfEachWord(t *testing.T) {
	a := New(2)
	take(t, a, 1, words(64, 1)...)
	take(t, a, 2, words(64, 2)...)
	want := words(64, 1)
	for i := range want {
		want[i] = uint64(i) << 58
		if code := a.Set(1, i, want[i]); code != api.OK {
			t.Fatalf("P5.1: Set(1, %d): code %d", i, code)
		}
		holds(t, a, 1, want...)
	}
	holds(t, a, 2, words(64, 2)...)
}

func TestCounts(t *testing.T) {
	a := New(4)
	tells(t, a, 4)
	take(t, a, 1)
	take(t, a, 2)
	tells(t, a, 4, 1, 2)
	give(t, a, 1, api.OK)
	tells(t, a, 4, 2)
	give(t, a, 2, api.OK)
	tells(t, a, 4)
	take(t, a, 2)
	tells(t, a, 4, 2)
	take(t, a, 1)
	take(t, a, 3)
	take(t, a, 4)
	tells(t, a, 4, 1, 2, 3, 4)
	for _, h := range []uint32{4, 2, 3, 1} {
		give(t, a, h, api.OK)
	}
	tells(t, a, 4)
}

func TestMaxCells(t *testing.T) {
	a := New(api.MaxCells)
	for i := range api.MaxCells {
		if h, code := a.Take(uint64(i)); h != uint32(i+1) || code != api.OK {
			t.Fatalf("P5.1: Take, the %d-th: %d, code %d", i, h, code)
		}
	}
	refuse(t, a, api.ErrFull)
	all := a.Handles()
	if len(all) != api.MaxCells || all[0] != 1 || all[api.MaxCells-1] != api.MaxCells || !slices.IsSorted(all) {
		t.Errorf("P5.1: Handles of all: %d", len(all))
	}
	holds(t, a, api.MaxCells, api.MaxCells-1)
	gone(t, a, api.MaxCells+1)
	for _, h := range all {
		give(t, a, h, api.OK)
	}
	tells(t, a, api.MaxCells)
	for i := range api.MaxCells {
		if h, code := a.Take(); h != uint32(api.MaxCells-i) || code != api.OK {
			t.Fatalf("P5.1: Take again, the %d-th: %d, code %d", i, h, code)
		}
	}
	refuse(t, a, api.ErrFull)
}

func TestNilArena(t *testing.T) {
	var a *Arena
	for _, ws := range [][]uint64{nil, {1}, words(64, 1), words(65, 1)} {
		refuse(t, a, api.ErrNil, ws...)
	}
	for _, h := range []uint32{0, 1, math.MaxUint32} {
		give(t, a, h, api.ErrNil)
		for _, i := range []int{-1, 0, 1} {
			if w, code := a.Get(h, i); w != 0 || code != api.ErrNil {
				t.Errorf("R3: Get(%d, %d): %d, code %d", h, i, w, code)
			}
			if code := a.Set(h, i, 1); code != api.ErrNil {
				t.Errorf("R3: Set(%d, %d): code %d", h, i, code)
			}
		}
		if n := a.Size(h); n != 0 {
			t.Errorf("R3: Size(%d): %d", h, n)
		}
	}
	if a.Live() != 0 || a.Free() != 0 || len(a.Handles()) != 0 {
		t.Errorf("R3: Live %d, Free %d, Handles %v", a.Live(), a.Free(), a.Handles())
	}
}

func TestWordsThatAreHandedIn(t *testing.T) {
	a := New(3)
	room := []uint64{9, 1, 2, 3, 8}
	take(t, a, 1, room[1:4]...)
	take(t, a, 2, room[1:4]...)
	if code := a.Set(1, 0, 77); code != api.OK {
		t.Fatalf("P5.1: Set: code %d", code)
	}
	if !slices.Equal(room, []uint64{9, 1, 2, 3, 8}) {
		t.Errorf("R4: what was handed in is changed, or its spare room: %v", room)
	}
	holds(t, a, 2, 1, 2, 3)
	clear(room)
	holds(t, a, 1, 77, 2, 3)
	holds(t, a, 2, 1, 2, 3)
	give(t, a, 1, api.OK)
	refuse(t, a, api.ErrArg, words(65, 1)...)
	take(t, a, 1, room[1:4]...)
	room[1] = 6
	holds(t, a, 1, 0, 0, 0)
}

func TestHandlesAreNewMemory(t *testing.T) {
	a := New(6)
	for h := uint32(1); h <= 5; h++ {
		take(t, a, h)
	}
	give(t, a, 3, api.OK)
	give(t, a, 5, api.OK)
	one, other := a.Handles(), a.Handles()
	one = one[:cap(one)]
	for i := range one {
		one[i] = 99
	}
	_ = append(one, 98, 97)
	if !slices.Equal(other, []uint32{1, 2, 4}) {
		t.Errorf("R4: two answers of Handles share memory: %v", other)
	}
	tells(t, a, 6, 1, 2, 4)
	take(t, a, 5)
	take(t, a, 3)
	take(t, a, 6)
}

// TestFromSeveralGoroutines lets calls that change nothing be under way together.
func TestFromSeveralGoroutines(t *testing.T) {
	a := New(9)
	for h := uint32(1); h <= 8; h++ {
		take(t, a, h, words(int(h), uint64(h))...)
	}
	give(t, a, 4, api.OK)
	want := []uint32{1, 2, 3, 5, 6, 7, 8}
	var all sync.WaitGroup
	for range 8 {
		all.Go(func() {
			for range 100 {
				for _, h := range want {
					if w, code := a.Get(h, 0); w != uint64(h)*1000 || code != api.OK || a.Size(h) != int(h) {
						t.Errorf("R5: Get(%d, 0): %d, code %d", h, w, code)
					}
				}
				if _, code := a.Get(4, 0); code != api.ErrNone || a.Live() != 7 || a.Free() != 2 || !slices.Equal(a.Handles(), want) {
					t.Error("R5: what is told meanwhile")
				}
			}
		})
	}
	all.Wait()
}

// plain is an arena told plainly: what each cell that is taken holds, which
// were given back, and the greatest handle yet.
type plain struct {
	most  int
	cells map[uint32][]uint64
	back  []uint32
	top   uint32
}

func (p *plain) take(ws []uint64) (uint32, api.Errno) {
	if len(ws) > 64 {
		return 0, api.ErrArg
	}
	if len(p.cells) == p.most {
		return 0, api.ErrFull
	}
	h := p.top + 1
	if len(p.back) > 0 {
		h = p.back[0]
		p.back = slices.Clone(p.back[1:])
	}
	p.top = max(p.top, h)
	p.cells[h] = slices.Clone(ws)
	return h, api.OK
}

func (p *plain) give(h uint32) api.Errno {
	if _, is := p.cells[h]; !is {
		return api.ErrNone
	}
	delete(p.cells, h)
	p.back = slices.Insert(p.back, 0, h)
	return api.OK
}

func (p *plain) set(h uint32, i int, w uint64) api.Errno {
	ws, is := p.cells[h]
	if !is {
		return api.ErrNone
	}
	if i < 0 || i >= len(ws) {
		return api.ErrArg
	}
	ws[i] = w
	return api.OK
}

// TestAsAPlainArena goes through mixtures of calls, by a plain rule, and holds
// each answer, and all that is there, against a plain arena.
func TestAsAPlainArena(t *testing.T) {
	state := uint32(5)
	next := func(n int) int {
		state = state*1664525 + 1013904223
		return int(state>>12) % n
	}
	for _, most := range []int{0, 1, 2, 3, 7, 20} {
		a, p := New(most), &plain{most: most, cells: map[uint32][]uint64{}}
		for step := range 600 {
			h, i, w := uint32(next(most+3)), next(7)-1, uint64(step)
			switch next(4) {
			case 0, 1:
				ws := words([]int{0, 1, 2, 5, 64, 65}[next(6)], w)
				got, code := a.Take(ws...)
				if want, wantCode := p.take(ws); got != want || code != wantCode {
					t.Fatalf("P5.1: Take at step %d of %d cells: %d, code %d; not %d, code %d", step, most, got, code, want, wantCode)
				}
			case 2:
				give(t, a, h, p.give(h))
			case 3:
				if code, want := a.Set(h, i, w), p.set(h, i, w); code != want {
					t.Fatalf("P5.1: Set(%d, %d) at step %d: code %d, not %d", h, i, step, code, want)
				}
			}
			asPlain(t, a, p)
		}
	}
}

// asPlain holds all that an arena tells against a plain one.
func asPlain(t *testing.T, a *Arena, p *plain) {
	t.Helper()
	var taken []uint32
	for h := uint32(0); h <= p.top+2; h++ {
		ws, is := p.cells[h]
		if is {
			taken = append(taken, h)
			holds(t, a, h, ws...)
		} else if w, code := a.Get(h, 0); w != 0 || code != api.ErrNone || a.Size(h) != 0 {
			t.Fatalf("P5.1: Get(%d, 0) of no cell: %d, code %d; Size %d", h, w, code, a.Size(h))
		}
	}
	tells(t, a, p.most, taken...)
}
