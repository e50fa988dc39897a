package mask

import (
	"math"
	"slices"
	"sync"
	"testing"
)

// borders are the bytes at both ends of each number of a mask.
var borders = []byte{0, 63, 64, 127, 128, 191, 192, 255}

// places are numbers to ask Next, Prev and Rank of: all bytes, and what is no
// byte on both sides of them, out to the ends of an int.
func places() []int {
	all := []int{math.MinInt, math.MinInt + 1, math.MinInt + 63, math.MinInt + 64, math.MinInt + 192, -1 << 32, -257, -256, -65, -64, -63, -2, -1}
	for b := range 256 {
		all = append(all, b)
	}
	return append(all, 256, 257, 258, 319, 320, 511, 512, 1<<32, 1<<32+3, math.MaxInt-192, math.MaxInt-64, math.MaxInt-1, math.MaxInt)
}

// set is a set of bytes told plainly: which of them are there.
type set [256]bool

// mask makes the set's mask, bit by bit, by no call of this package.
func (s set) mask() Mask {
	var m Mask
	for b, is := range s {
		if is {
			m[b>>6] += 1 << (b & 63)
		}
	}
	return m
}

// list tells the set's bytes, rising.
func (s set) list() []byte {
	var all []byte
	for b, is := range s {
		if is {
			all = append(all, byte(b))
		}
	}
	return all
}

// next, prev and rank are what P4.1 says, asked of each byte in turn.
func (s set) next(b int) int {
	for c := range 256 {
		if s[c] && c >= b {
			return c
		}
	}
	return -1
}

func (s set) prev(b int) int {
	is := -1
	for c := range 256 {
		if s[c] && c <= b {
			is = c
		}
	}
	return is
}

func (s set) rank(b int) int {
	n := 0
	for c := range 256 {
		if s[c] && c < b {
			n++
		}
	}
	return n
}

// setOf makes the set of these bytes.
func setOf(bs ...byte) set {
	var s set
	for _, b := range bs {
		s[b] = true
	}
	return s
}

// sets are those that the tests go through: none, all, each byte alone and
// missing alone, the borders, each number of a mask alone, and mixtures.
func sets() []set {
	var whole set
	for b := range whole {
		whole[b] = true
	}
	all := []set{{}, whole, setOf(borders...), setOf(3, 200)}
	for b := range 256 {
		missing := whole
		missing[b] = false
		all = append(all, setOf(byte(b)), missing)
	}
	for word := range 4 {
		var alone set
		for b := range 64 {
			alone[word*64+b] = true
		}
		all = append(all, alone)
	}
	return append(all, mixtures()...)
}

// mixtures are sets of ever more bytes, by a plain rule.
func mixtures() []set {
	var all []set
	state := uint32(7)
	for dense := range 24 {
		var s set
		for b := range s {
			state = state*1664525 + 1013904223
			s[b] = int(state>>16)%24 < dense
		}
		all = append(all, s)
	}
	return all
}

func TestExample(t *testing.T) {
	if got := Of(3, 200).Next(4); got != 200 {
		t.Errorf("P4.1: Of(3, 200).Next(4): %d", got)
	}
}

func TestOf(t *testing.T) {
	if Of() != (Mask{}) || Of(nil...) != (Mask{}) || Of([]byte{}...) != (Mask{}) {
		t.Error("P4.1: Of no byte")
	}
	for b := range 256 {
		var want Mask
		want[b/64] = 1 << (b % 64)
		if got := Of(byte(b)); got != want {
			t.Errorf("P4.1: Of(%d): %x", b, got)
		}
		if got := Of(byte(b), byte(b)); got != want {
			t.Errorf("P4.1: Of(%d, %d): %x", b, b, got)
		}
	}
	if got := Of(borders...); got != (Mask{1<<63 | 1, 1<<63 | 1, 1<<63 | 1, 1<<63 | 1}) {
		t.Errorf("P4.1: Of the borders: %x", got)
	}
	for _, s := range sets() {
		bs := s.list()
		falling := slices.Clone(bs)
		slices.Reverse(falling)
		twice := slices.Concat(bs, falling, bs)
		for _, bs := range [][]byte{bs, falling, twice} {
			if got := Of(bs...); got != s.mask() {
				t.Errorf("P4.1: Of(%v): %x", bs, got)
			}
		}
	}
}

func TestOfLeavesItsBytes(t *testing.T) {
	room := []byte{9, 200, 3, 200, 77, 78}
	was := slices.Clone(room)
	m := Of(room[1:4]...)
	if !slices.Equal(room, was) {
		t.Errorf("R4: Of changed what it was given: %v", room)
	}
	room[1], room[2], room[3] = 4, 5, 6
	if m != setOf(200, 3).mask() {
		t.Errorf("R4: Of kept what it was given: %v", m.All())
	}
}

func TestHas(t *testing.T) {
	for _, s := range sets() {
		m := s.mask()
		for b := range 256 {
			if got := m.Has(byte(b)); got != s[b] {
				t.Errorf("P4.1: Has(%d) of %v: %v", b, s.list(), got)
			}
		}
	}
}

func TestWithAndWithout(t *testing.T) {
	for _, s := range sets() {
		m := s.mask()
		for b := range 256 {
			with, without := s, s
			with[b], without[b] = true, false
			if got := m.With(byte(b)); got != with.mask() {
				t.Errorf("P4.1: With(%d) of %v: %v", b, s.list(), got.All())
			}
			if m != s.mask() {
				t.Fatalf("R4: With(%d) changed the set that it was called of: %v", b, s.list())
			}
			if got := m.Without(byte(b)); got != without.mask() {
				t.Errorf("P4.1: Without(%d) of %v: %v", b, s.list(), got.All())
			}
			if m != s.mask() {
				t.Fatalf("R4: Without(%d) changed the set that it was called of: %v", b, s.list())
			}
		}
	}
}

func TestCountAndAll(t *testing.T) {
	for _, s := range sets() {
		m := s.mask()
		if got := m.Count(); got != len(s.list()) {
			t.Errorf("P4.1: Count of %v: %d", s.list(), got)
		}
		if got := m.All(); !slices.Equal(got, s.list()) {
			t.Errorf("P4.1: All of %v: %v", s.list(), got)
		}
		if m != s.mask() {
			t.Errorf("R4: Count or All changed the set: %v", s.list())
		}
	}
	if n := (Mask{}).Count(); n != 0 {
		t.Errorf("P4.1: Count of none: %d", n)
	}
	whole := Mask{math.MaxUint64, math.MaxUint64, math.MaxUint64, math.MaxUint64}
	if n, all := whole.Count(), whole.All(); n != 256 || len(all) != 256 || all[0] != 0 || all[255] != 255 {
		t.Errorf("P4.1: Count and All of all: %d, %v", n, all)
	}
}

func TestAllIsNewMemory(t *testing.T) {
	for _, s := range sets() {
		m := s.mask()
		one, other := m.All(), m.All()
		for _, bs := range [][]byte{one[:cap(one)], append(one, 1, 2, 3)} {
			for i := range bs {
				bs[i] ^= 0x55
			}
		}
		if !slices.Equal(other, s.list()) {
			t.Errorf("R4: two answers of All of %v share memory", s.list())
		}
		if m != s.mask() || !slices.Equal(m.All(), s.list()) {
			t.Errorf("R4: an answer of All shares memory with the set %v", s.list())
		}
	}
}

func TestNextPrevRank(t *testing.T) {
	for _, s := range sets() {
		m := s.mask()
		for _, b := range places() {
			if got, want := m.Next(b), s.next(b); got != want {
				t.Errorf("P4.1: Next(%d) of %v: %d, not %d", b, s.list(), got, want)
			}
			if got, want := m.Prev(b), s.prev(b); got != want {
				t.Errorf("P4.1: Prev(%d) of %v: %d, not %d", b, s.list(), got, want)
			}
			if got, want := m.Rank(b), s.rank(b); got != want {
				t.Errorf("P4.1: Rank(%d) of %v: %d, not %d", b, s.list(), got, want)
			}
		}
		if m != s.mask() {
			t.Errorf("R4: Next, Prev or Rank changed the set %v", s.list())
		}
	}
}

func TestNextPrevRankAtTheEnds(t *testing.T) {
	for _, c := range []struct {
		m                   Mask
		b, next, prev, rank int
	}{
		{Mask{}, math.MinInt, -1, -1, 0},
		{Mask{}, -1, -1, -1, 0},
		{Mask{}, 0, -1, -1, 0},
		{Mask{}, 255, -1, -1, 0},
		{Mask{}, 256, -1, -1, 0},
		{Mask{}, math.MaxInt, -1, -1, 0},
		{Of(0, 255), math.MinInt, 0, -1, 0},
		{Of(0, 255), -1, 0, -1, 0},
		{Of(0, 255), 0, 0, 0, 0},
		{Of(0, 255), 1, 255, 0, 1},
		{Of(0, 255), 254, 255, 0, 1},
		{Of(0, 255), 255, 255, 255, 1},
		{Of(0, 255), 256, -1, 255, 2},
		{Of(0, 255), math.MaxInt, -1, 255, 2},
		{Of(63, 64), 63, 63, 63, 0},
		{Of(63, 64), 64, 64, 64, 1},
		{Of(63, 64), 65, -1, 64, 2},
		{Of(63, 64), 62, 63, -1, 0},
	} {
		if next, prev, rank := c.m.Next(c.b), c.m.Prev(c.b), c.m.Rank(c.b); next != c.next || prev != c.prev || rank != c.rank {
			t.Errorf("P4.1: at %d of %v: Next %d, Prev %d, Rank %d", c.b, c.m.All(), next, prev, rank)
		}
	}
}

func TestWalks(t *testing.T) {
	for _, s := range sets() {
		m := s.mask()
		var up, down []byte
		for b := m.Next(-1); b >= 0; b = m.Next(b + 1) {
			if m.Rank(b) != len(up) {
				t.Errorf("P4.1: Rank(%d) of %v: %d", b, s.list(), m.Rank(b))
			}
			up = append(up, byte(b))
		}
		for b := m.Prev(256); b >= 0; b = m.Prev(b - 1) {
			down = append(down, byte(b))
		}
		slices.Reverse(down)
		if !slices.Equal(up, s.list()) || !slices.Equal(down, s.list()) {
			t.Errorf("P4.1: the walk by Next is %v, by Prev %v, of %v", up, down, s.list())
		}
	}
}

func TestFromSeveralGoroutines(t *testing.T) {
	s := setOf(append([]byte{3, 200}, borders...)...)
	m := s.mask()
	var all sync.WaitGroup
	for range 8 {
		all.Go(func() {
			for b := range 256 {
				with := m.With(byte(b)).Count() - m.Without(byte(b)).Count()
				if with != 1 || m.Has(byte(b)) != s[b] || m.Next(b) != s.next(b) || m.Prev(b) != s.prev(b) || m.Rank(b) != s.rank(b) || Of(m.All()...) != m {
					t.Errorf("R5: at %d", b)
				}
			}
		})
	}
	all.Wait()
}
