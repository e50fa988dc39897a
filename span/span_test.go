package span

import (
	"bytes"
	"math"
	"runtime"
	"slices"
	"strings"
	"sync"
	"testing"

	"bramble/api"
)

// put keeps a string, whose handle must be want.
func put(t *testing.T, p *Pool, want uint32, s string) {
	t.Helper()
	if h, code := p.Put([]byte(s)); h != want || code != api.OK {
		t.Fatalf("P6.1: Put of %d bytes: %d, code %d; not %d", len(s), h, code, want)
	}
}

// refuse asks to keep a string, and must get this code.
func refuse(t *testing.T, p *Pool, want api.Errno, s string) {
	t.Helper()
	if h, code := p.Put([]byte(s)); h != 0 || code != want {
		t.Fatalf("P6.1: Put of %d bytes: %d, code %d; not 0, code %d", len(s), h, code, want)
	}
}

// cut takes n bytes off string h, and must get this code.
func cut(t *testing.T, p *Pool, h uint32, n int, want api.Errno) {
	t.Helper()
	if code := p.Cut(h, n); code != want {
		t.Fatalf("P6.1: Cut(%d, %d): code %d, not %d", h, n, code, want)
	}
}

// drop drops string h, and must get this code.
func drop(t *testing.T, p *Pool, h uint32, want api.Errno) {
	t.Helper()
	if code := p.Drop(h); code != want {
		t.Fatalf("P6.1: Drop(%d): code %d, not %d", h, code, want)
	}
}

// holds looks whether string h is want.
func holds(t *testing.T, p *Pool, h uint32, want string) {
	t.Helper()
	if b, code := p.Get(h); string(b) != want || code != api.OK {
		t.Fatalf("P6.1: Get(%d): %d bytes, code %d; not %d bytes", h, len(b), code, len(want))
	}
}

// gone looks whether each call tells that there is no string h, wherever it
// would be cut.
func gone(t *testing.T, p *Pool, h uint32) {
	t.Helper()
	if b, code := p.Get(h); len(b) != 0 || code != api.ErrNone {
		t.Fatalf("P6.1: Get(%d) of no string: %q, code %d", h, b, code)
	}
	for _, n := range []int{math.MinInt, -1, 0, 1, 2, math.MaxInt} {
		cut(t, p, h, n, api.ErrNone)
	}
	drop(t, p, h, api.ErrNone)
}

// tells looks whether so many bytes and so many strings are kept.
func tells(t *testing.T, p *Pool, used, live int) {
	t.Helper()
	if u, l := p.Used(), p.Live(); u != used || l != live {
		t.Fatalf("P6.1: Used %d, Live %d; not %d, %d", u, l, used, live)
	}
}

func TestExample(t *testing.T) {
	p := New(3)
	put(t, p, 1, "abc")
	cut(t, p, 1, 1, api.OK)
	holds(t, p, 1, "bc")
}

func TestNew(t *testing.T) {
	for _, most := range []int{math.MinInt, -1 << 32, -2, -1, api.MaxSpan + 1, api.MaxSpan + 2, 1 << 32, math.MaxInt} {
		if New(most) != nil {
			t.Errorf("P6.1: New(%d) is not nil", most)
		}
	}
	for _, most := range []int{0, 1, 2, 3, 1 << 16, api.MaxSpan - 1, api.MaxSpan} {
		p := New(most)
		if p == nil {
			t.Fatalf("P6.1: New(%d) is nil", most)
		}
		tells(t, p, 0, 0)
		for _, h := range []uint32{0, 1, 2, math.MaxUint32} {
			gone(t, p, h)
		}
	}
}

func TestTwoPools(t *testing.T) {
	a, b := New(4), New(4)
	put(t, a, 1, "ab")
	tells(t, b, 0, 0)
	gone(t, b, 1)
	put(t, b, 1, "cde")
	holds(t, a, 1, "ab")
	drop(t, a, 1, api.OK)
	holds(t, b, 1, "cde")
	tells(t, a, 0, 0)
	tells(t, b, 3, 1)
}

func TestPutWithoutRoomForAByte(t *testing.T) {
	p := New(0)
	refuse(t, p, api.ErrFull, "a")
	put(t, p, 1, "")
	if h, code := p.Put(nil); h != 2 || code != api.OK {
		t.Fatalf("P6.1: Put(nil): %d, code %d", h, code)
	}
	refuse(t, p, api.ErrFull, "ab")
	tells(t, p, 0, 2)
	holds(t, p, 1, "")
	holds(t, p, 2, "")
	cut(t, p, 2, 0, api.OK)
	cut(t, p, 2, 1, api.ErrArg)
	cut(t, p, 2, -1, api.ErrArg)
	drop(t, p, 2, api.OK)
	gone(t, p, 2)
	drop(t, p, 1, api.OK)
	tells(t, p, 0, 0)
	put(t, p, 1, "")
	put(t, p, 2, "")
	put(t, p, 3, "")
}

func TestPutOfOneByte(t *testing.T) {
	p := New(1)
	for round := range 256 {
		s := string([]byte{byte(round)})
		put(t, p, 1, s)
		refuse(t, p, api.ErrFull, "x")
		holds(t, p, 1, s)
		tells(t, p, 1, 1)
		drop(t, p, 1, api.OK)
		refuse(t, p, api.ErrFull, "xy")
		gone(t, p, 1)
		tells(t, p, 0, 0)
	}
}

func TestPutUpToTheLastByte(t *testing.T) {
	p := New(10)
	refuse(t, p, api.ErrFull, strings.Repeat("x", 11))
	put(t, p, 1, "abcdef")
	refuse(t, p, api.ErrFull, "12345")
	put(t, p, 2, "1234")
	refuse(t, p, api.ErrFull, "5")
	put(t, p, 3, "")
	tells(t, p, 10, 3)

	// Bytes that were cut off make room.
	cut(t, p, 1, 2, api.OK)
	tells(t, p, 8, 3)
	refuse(t, p, api.ErrFull, "uvw")
	put(t, p, 4, "uv")
	tells(t, p, 10, 4)
	refuse(t, p, api.ErrFull, "x")

	// So do those of a string that is dropped, only those that it had left.
	drop(t, p, 1, api.OK)
	tells(t, p, 6, 3)
	refuse(t, p, api.ErrFull, "ghijk")
	put(t, p, 1, "ghij")
	refuse(t, p, api.ErrFull, "x")
	tells(t, p, 10, 4)
	for h, want := range []string{"ghij", "1234", "", "uv"} {
		holds(t, p, uint32(h+1), want)
	}
}

func TestRefusalsChangeNothing(t *testing.T) {
	p := New(4)
	put(t, p, 1, "ab")
	put(t, p, 2, "c")
	drop(t, p, 1, api.OK)
	for range 3 {
		refuse(t, p, api.ErrFull, "wxyz")
		cut(t, p, 2, 2, api.ErrArg)
		cut(t, p, 2, -1, api.ErrArg)
		for _, h := range []uint32{0, 1, 3} {
			gone(t, p, h)
		}
		tells(t, p, 1, 1)
		holds(t, p, 2, "c")
	}
	put(t, p, 1, "xyz")
	put(t, p, 3, "")
	holds(t, p, 1, "xyz")
}

func TestTheLastDroppedIsGivenOutFirst(t *testing.T) {
	p := New(100)
	for h := uint32(1); h <= 5; h++ {
		put(t, p, h, strings.Repeat("a", int(h)))
	}
	for _, h := range []uint32{2, 5, 1} {
		drop(t, p, h, api.OK)
	}
	tells(t, p, 7, 2)
	put(t, p, 1, "one")
	put(t, p, 5, "five")
	drop(t, p, 3, api.OK)
	put(t, p, 3, "three")
	put(t, p, 2, "two")
	put(t, p, 6, "six")
	drop(t, p, 6, api.OK)
	drop(t, p, 4, api.OK)
	put(t, p, 4, "")
	put(t, p, 6, "6")
	put(t, p, 7, "")
	put(t, p, 8, "8")
	for h, want := range []string{"one", "two", "three", "", "five", "6", "", "8"} {
		holds(t, p, uint32(h+1), want)
	}
	tells(t, p, 17, 8)
}

func TestHandlesThatAreNone(t *testing.T) {
	p := New(20)
	put(t, p, 1, "ab")
	put(t, p, 2, "cd")
	put(t, p, 3, "ef")
	drop(t, p, 2, api.OK)
	for _, h := range []uint32{0, 2, 4, 5, 1<<16 + 1, api.MaxSpan, 1 << 31, 1<<31 + 1, math.MaxUint32 - 1, math.MaxUint32} {
		gone(t, p, h)
		gone(t, p, h)
	}
	tells(t, p, 4, 2)
	holds(t, p, 1, "ab")
	holds(t, p, 3, "ef")
	put(t, p, 2, "gh")
	put(t, p, 4, "ij")
}

func TestCut(t *testing.T) {
	p := New(20)
	put(t, p, 1, "abcdef")
	put(t, p, 2, "xyz")
	for _, c := range []struct {
		n    int
		want api.Errno
		left string
	}{
		{-1, api.ErrArg, "abcdef"},
		{math.MinInt, api.ErrArg, "abcdef"},
		{-1 << 32, api.ErrArg, "abcdef"},
		{7, api.ErrArg, "abcdef"},
		{1 << 32, api.ErrArg, "abcdef"},
		{math.MaxInt, api.ErrArg, "abcdef"},
		{0, api.OK, "abcdef"},
		{1, api.OK, "bcdef"},
		{6, api.ErrArg, "bcdef"},
		{math.MaxInt, api.ErrArg, "bcdef"},
		{-1, api.ErrArg, "bcdef"},
		{0, api.OK, "bcdef"},
		{3, api.OK, "ef"},
		{3, api.ErrArg, "ef"},
		{-1, api.ErrArg, "ef"},
		{2, api.OK, ""},
		{1, api.ErrArg, ""},
		{-1, api.ErrArg, ""},
		{0, api.OK, ""},
	} {
		cut(t, p, 1, c.n, c.want)
		holds(t, p, 1, c.left)
		holds(t, p, 2, "xyz")
		tells(t, p, len(c.left)+3, 2)
	}
	// A string of which all is cut off is one still.
	drop(t, p, 1, api.OK)
	tells(t, p, 3, 1)
	gone(t, p, 1)
	cut(t, p, 2, 3, api.OK)
	tells(t, p, 0, 1)
}

// TestCutByParts goes through all ways to cut a string twice.
func TestCutByParts(t *testing.T) {
	const whole = "0123456789ab"
	for first := range len(whole) + 1 {
		for second := range len(whole) + 2 - first {
			p := New(len(whole))
			put(t, p, 1, whole)
			cut(t, p, 1, first, api.OK)
			if first+second > len(whole) {
				cut(t, p, 1, second, api.ErrArg)
				holds(t, p, 1, whole[first:])
				continue
			}
			cut(t, p, 1, second, api.OK)
			holds(t, p, 1, whole[first+second:])
			tells(t, p, len(whole)-first-second, 1)
			put(t, p, 2, whole[:first+second])
			refuse(t, p, api.ErrFull, "x")
			drop(t, p, 1, api.OK)
			tells(t, p, first+second, 1)
			put(t, p, 1, whole[first+second:])
			holds(t, p, 1, whole[first+second:])
			holds(t, p, 2, whole[:first+second])
		}
	}
}

// TestManySmallCuts must end within moments: a long string is cut byte by byte.
func TestManySmallCuts(t *testing.T) {
	p := New(api.MaxSpan)
	long := make([]byte, 1<<20)
	for i := range long {
		long[i] = byte(i >> 3)
	}
	put(t, p, 1, string(long))
	for i := range long {
		cut(t, p, 1, 1, api.OK)
		if i&(i+1) == 0 {
			holds(t, p, 1, string(long[i+1:]))
		}
	}
	cut(t, p, 1, 1, api.ErrArg)
	holds(t, p, 1, "")
	tells(t, p, 0, 1)
}

// TestCutBytesAreNotKept looks at how much memory strings take of which nearly
// all was cut off, or that were dropped: little, however long they were.
func TestCutBytesAreNotKept(t *testing.T) {
	p := New(api.MaxSpan)
	long := make([]byte, 1<<23)
	before := memory()
	for h := uint32(1); h <= 8; h++ {
		if got, code := p.Put(long); got != h || code != api.OK {
			t.Fatalf("P6.1: Put: %d, code %d", got, code)
		}
		cut(t, p, h, len(long)/2, api.OK)
		cut(t, p, h, len(long)/2-1, api.OK)
	}
	if _, code := p.Put(long); code != api.OK {
		t.Fatalf("P6.1: Put: code %d", code)
	}
	drop(t, p, 9, api.OK)
	more := memory() - before
	runtime.KeepAlive(long)
	if more > 1<<22 {
		t.Errorf("%d bytes are kept in %d bytes of memory", p.Used(), more)
	}
	tells(t, p, 8, 8)
}

// memory tells how many bytes of memory are in use.
func memory() int64 {
	runtime.GC()
	var m runtime.MemStats
	runtime.ReadMemStats(&m)
	return int64(m.HeapAlloc)
}

func TestMaxSpan(t *testing.T) {
	p := New(api.MaxSpan)
	long := strings.Repeat("y", api.MaxSpan)
	refuse(t, p, api.ErrFull, long+"y")
	put(t, p, 1, long)
	refuse(t, p, api.ErrFull, "y")
	put(t, p, 2, "")
	tells(t, p, api.MaxSpan, 2)
	holds(t, p, 1, long)
	cut(t, p, 1, 1, api.OK)
	refuse(t, p, api.ErrFull, "yy")
	put(t, p, 3, "y")
	cut(t, p, 1, api.MaxSpan, api.ErrArg)
	cut(t, p, 1, api.MaxSpan-1, api.OK)
	tells(t, p, 1, 3)
	put(t, p, 4, long[1:])
	drop(t, p, 4, api.OK)
	drop(t, p, 3, api.OK)
	put(t, p, 3, long)
}

func TestManyStrings(t *testing.T) {
	const many = 100_000
	p := New(many)
	for i := range many {
		put(t, p, uint32(i+1), string([]byte{byte(i)}))
	}
	refuse(t, p, api.ErrFull, "x")
	tells(t, p, many, many)
	for i := range many {
		holds(t, p, uint32(i+1), string([]byte{byte(i)}))
		drop(t, p, uint32(i+1), api.OK)
	}
	tells(t, p, 0, 0)
	for i := range many {
		put(t, p, uint32(many-i), "z")
	}
	refuse(t, p, api.ErrFull, "x")
	put(t, p, many+1, "")
}

func TestNilPool(t *testing.T) {
	var p *Pool
	if h, code := p.Put(nil); h != 0 || code != api.ErrNil {
		t.Errorf("R3: Put(nil): %d, code %d", h, code)
	}
	refuse(t, p, api.ErrNil, "a")
	for _, h := range []uint32{0, 1, math.MaxUint32} {
		if b, code := p.Get(h); len(b) != 0 || code != api.ErrNil {
			t.Errorf("R3: Get(%d): %q, code %d", h, b, code)
		}
		for _, n := range []int{-1, 0, 1} {
			cut(t, p, h, n, api.ErrNil)
		}
		drop(t, p, h, api.ErrNil)
	}
	tells(t, p, 0, 0)
}

func TestBytesThatAreHandedIn(t *testing.T) {
	p := New(20)
	room := []byte("<abc>")
	for h := uint32(1); h <= 2; h++ {
		if got, code := p.Put(room[1:4]); got != h || code != api.OK {
			t.Fatalf("P6.1: Put: %d, code %d", got, code)
		}
	}
	cut(t, p, 1, 2, api.OK)
	if string(room) != "<abc>" {
		t.Errorf("R4: what was handed in is changed, or its spare room: %q", room)
	}
	for i := range room {
		room[i] = '!'
	}
	holds(t, p, 1, "c")
	holds(t, p, 2, "abc")
	drop(t, p, 1, api.OK)
	if h, code := p.Put(room[:2]); h != 1 || code != api.OK {
		t.Fatalf("P6.1: Put again: %d, code %d", h, code)
	}
	clear(room)
	holds(t, p, 1, "!!")
	drop(t, p, 1, api.OK)
	drop(t, p, 2, api.OK)
	if !bytes.Equal(room, make([]byte, 5)) {
		t.Errorf("R4: Drop changes what was handed in: %q", room)
	}
}

// scribble writes over an answer, and beyond its end as far as it has room.
func scribble(b []byte) {
	b = b[:cap(b)]
	for i := range b {
		b[i] = '?'
	}
	_ = append(b, "??"...)
}

func TestBytesThatAreAnswered(t *testing.T) {
	p := New(40)
	put(t, p, 1, "abcdefgh")
	put(t, p, 2, "ijkl")
	for n, left := range []string{"abcdefgh", "bcdefgh", "defgh", "gh"} {
		cut(t, p, 1, n, api.OK)
		one, _ := p.Get(1)
		other, _ := p.Get(1)
		scribble(one)
		if string(other) != left {
			t.Errorf("R4: two answers share memory: %q, not %q", other, left)
		}
		scribble(other)
		holds(t, p, 1, left)
		holds(t, p, 2, "ijkl")
	}
	put(t, p, 3, "more")
	// An answer stands, whatever becomes of its string.
	kept, _ := p.Get(2)
	cut(t, p, 2, 1, api.OK)
	drop(t, p, 2, api.OK)
	put(t, p, 2, "new!")
	if string(kept) != "ijkl" {
		t.Errorf("R4: an answer changes with its string: %q", kept)
	}
	// What is handed in again is not kept either.
	if h, code := p.Put(kept); h != 4 || code != api.OK {
		t.Fatalf("P6.1: Put of an answer: %d, code %d", h, code)
	}
	scribble(kept)
	holds(t, p, 4, "ijkl")
	holds(t, p, 2, "new!")
	holds(t, p, 3, "more")
}

// TestFromSeveralGoroutines lets calls that change nothing be under way together.
func TestFromSeveralGoroutines(t *testing.T) {
	p := New(100)
	for h := uint32(1); h <= 6; h++ {
		put(t, p, h, strings.Repeat("z", int(h)))
	}
	drop(t, p, 4, api.OK)
	cut(t, p, 6, 2, api.OK)
	want := map[uint32]int{1: 1, 2: 2, 3: 3, 5: 5, 6: 4}
	var all sync.WaitGroup
	for range 8 {
		all.Go(func() {
			for range 100 {
				for h, n := range want {
					b, code := p.Get(h)
					if string(b) != strings.Repeat("z", n) || code != api.OK {
						t.Errorf("R5: Get(%d): %q, code %d", h, b, code)
					}
					scribble(b)
				}
				if _, code := p.Get(4); code != api.ErrNone || p.Used() != 15 || p.Live() != 5 {
					t.Error("R5: what is told meanwhile")
				}
			}
		})
	}
	all.Wait()
}

// plain is a pool told plainly: each string that is kept, which handles were
// given back, and the greatest handle yet.
type plain struct {
	most    int
	strings map[uint32]string
	back    []uint32
	top     uint32
}

func (p *plain) used() int {
	n := 0
	for _, s := range p.strings {
		n += len(s)
	}
	return n
}

func (p *plain) put(s string) (uint32, api.Errno) {
	if p.used()+len(s) > p.most {
		return 0, api.ErrFull
	}
	h := p.top + 1
	if len(p.back) > 0 {
		h = p.back[0]
		p.back = slices.Clone(p.back[1:])
	}
	p.top = max(p.top, h)
	p.strings[h] = s
	return h, api.OK
}

func (p *plain) cut(h uint32, n int) api.Errno {
	s, is := p.strings[h]
	if !is {
		return api.ErrNone
	}
	if n < 0 || n > len(s) {
		return api.ErrArg
	}
	p.strings[h] = s[n:]
	return api.OK
}

func (p *plain) drop(h uint32) api.Errno {
	if _, is := p.strings[h]; !is {
		return api.ErrNone
	}
	delete(p.strings, h)
	p.back = slices.Insert(p.back, 0, h)
	return api.OK
}

// TestAsAPlainPool goes through mixtures of calls, by a plain rule, and holds
// each answer, and all that is there, against a plain pool.
func TestAsAPlainPool(t *testing.T) {
	state := uint32(5)
	next := func(n int) int {
		state = state*1664525 + 1013904223
		return int(state>>12) % n
	}
	for _, most := range []int{0, 1, 2, 5, 17, 60, 200} {
		p, q := New(most), &plain{most: most, strings: map[uint32]string{}}
		for step := range 1500 {
			h := uint32(next(int(q.top) + 2))
			switch next(5) {
			case 0, 1:
				s := strings.Repeat(string(rune('a'+step%26)), next(12)) + "end"[:next(4)]
				got, code := p.Put([]byte(s))
				if want, wantCode := q.put(s); got != want || code != wantCode {
					t.Fatalf("P6.1: Put of %d bytes at step %d of %d: %d, code %d; not %d, code %d", len(s), step, most, got, code, want, wantCode)
				}
			case 2, 3:
				n := next(7) - 1
				cut(t, p, h, n, q.cut(h, n))
			case 4:
				drop(t, p, h, q.drop(h))
			}
			asPlain(t, p, q)
		}
	}
}

// asPlain holds all that a pool tells against a plain one.
func asPlain(t *testing.T, p *Pool, q *plain) {
	t.Helper()
	for h := uint32(0); h <= q.top+2; h++ {
		if s, is := q.strings[h]; is {
			holds(t, p, h, s)
		} else if b, code := p.Get(h); len(b) != 0 || code != api.ErrNone {
			t.Fatalf("P6.1: Get(%d) of no string: %q, code %d", h, b, code)
		}
	}
	tells(t, p, q.used(), len(q.strings))
}
