package sum

import (
	"bytes"
	"math"
	"os"
	"sync"
	"testing"

	"bramble/api"
)

// atStart is what Builds told ahead of every call of the others.
var atStart int

func TestMain(m *testing.M) {
	atStart = Builds()
	os.Exit(m.Run())
}

// forget brings back what is before the first call, so that every call can be the first one.
func forget() {
	once = sync.Once{}
	builds.Store(0)
	table = [256]uint32{}
}

// plainSum does what the chapter tells, bit by bit, on a register of single bits, the lowest first.
func plainSum(b []byte) uint32 {
	var register [32]bool
	for i := range register {
		register[i] = true
	}
	for _, x := range b {
		for i := range 8 {
			register[i] = register[i] != (x>>i&1 == 1)
		}
		for range 8 {
			register = plainStep(register)
		}
	}
	var s uint32
	for i, one := range register {
		if !one {
			s |= 1 << i
		}
	}
	return s
}

func plainStep(register [32]bool) [32]bool {
	fallen := register[0]
	var next [32]bool
	copy(next[:], register[1:])
	if fallen {
		for i := range next {
			next[i] = next[i] != (uint32(0xEB31D82E)>>i&1 == 1)
		}
	}
	return next
}

// mixed makes n bytes that are told by a number.
func mixed(n int, seed int) []byte {
	b := make([]byte, n)
	x := uint32(seed)*2654435761 + 12345
	for i := range b {
		x = x*1664525 + 1013904223
		b[i] = byte(x >> 24)
	}
	return b
}

// samples lists no bytes, all single bytes, pairs at the edges, and longer ones.
func samples() [][]byte {
	all := [][]byte{nil, {}}
	for i := range 256 {
		all = append(all, []byte{byte(i)})
	}
	edges := []byte{0x00, 0x01, 0x7f, 0x80, 0xfe, 0xff}
	for _, a := range edges {
		for _, b := range edges {
			all = append(all, []byte{a, b})
		}
	}
	for n := range 80 {
		all = append(all, mixed(n, n))
	}
	for _, n := range []int{4, 255, 256, 257} {
		all = append(all, make([]byte, n), bytes.Repeat([]byte{0xff}, n))
	}
	return all
}

func TestOf(t *testing.T) {
	for _, b := range samples() {
		if got, want := Of(b), plainSum(b); got != want {
			t.Errorf("P2.1: Of(%x): %08x, not %08x", b, got, want)
		}
	}
}

// TestOfKnown holds a sum against numbers worked out by hand from the chapter's words.
func TestOfKnown(t *testing.T) {
	if s := Of(nil); s != 0 {
		t.Errorf("P2.1: Of no bytes: %08x", s)
	}
	if s := Of([]byte{}); s != 0 {
		t.Errorf("P2.1: Of an empty list: %08x", s)
	}
	// Four bytes 0xff empty the lowest bits again and again: no 1 falls out ever.
	if s := Of([]byte{0xff}); s != 0xff000000 {
		t.Errorf("P2.1: Of(ff): %08x", s)
	}
	if s := Of([]byte{0xff, 0xff, 0xff, 0xff}); s != 0xffffffff {
		t.Errorf("P2.1: Of(ffffffff): %08x", s)
	}
}

func TestOfLong(t *testing.T) {
	for _, n := range []int{api.MaxKey, api.MaxKey + 1} {
		b := mixed(n, n)
		if got, want := Of(b), plainSum(b); got != want {
			t.Errorf("P2.1: Of %d bytes: %08x, not %08x", n, got, want)
		}
	}
	if Of(make([]byte, 1<<20)) == Of(make([]byte, 1<<20+1)) {
		t.Error("P2.1: bytes 0 count too")
	}
}

func TestMoreInTwo(t *testing.T) {
	for n := range 60 {
		b := mixed(n, 3*n+1)
		for at := range n + 1 {
			if got, want := More(Of(b[:at]), b[at:]), plainSum(b); got != want {
				t.Errorf("P2.1: More of %d bytes, cut at %d: %08x, not %08x", n, at, got, want)
			}
		}
	}
}

func TestMoreByteByByte(t *testing.T) {
	b := mixed(1000, 7)
	s := Of(nil)
	for i := range b {
		s = More(s, b[i:i+1])
		s = More(s, nil)
		if want := Of(b[:i+1]); s != want {
			t.Fatalf("P2.1: More, byte %d: %08x, not %08x", i, s, want)
		}
	}
}

// TestMoreOfAnySum takes sums of which no bytes are known: every register may be.
func TestMoreOfAnySum(t *testing.T) {
	for _, s := range []uint32{0, 1, 0x80000000, math.MaxUint32, 0x12345678, 0xEB31D82E} {
		if got := More(s, nil); got != s {
			t.Errorf("P2.1: More(%08x) of no bytes: %08x", s, got)
		}
		for _, b := range [][]byte{{0x00}, {0xff}, {'a', 'b', 'c'}} {
			if got, want := More(s, b), plainMore(s, b); got != want {
				t.Errorf("P2.1: More(%08x, %x): %08x, not %08x", s, b, got, want)
			}
		}
	}
}

func plainMore(s uint32, b []byte) uint32 {
	r := ^s
	for _, x := range b {
		r ^= uint32(x)
		for range 8 {
			if r%2 == 1 {
				r = r/2 ^ 0xEB31D82E
			} else {
				r /= 2
			}
		}
	}
	return ^r
}

func TestStep(t *testing.T) {
	for i := range 256 {
		var register [32]bool
		for at := range 8 {
			register[at] = i>>at&1 == 1
		}
		for range 8 {
			register = plainStep(register)
		}
		var want uint32
		for at, one := range register {
			if one {
				want |= 1 << at
			}
		}
		if got := Step(byte(i)); got != want {
			t.Errorf("P2.1: Step(%d): %08x, not %08x", i, got, want)
		}
	}
	if Step(0) != 0 {
		t.Errorf("P2.1: Step(0): %08x", Step(0))
	}
	if Step(0x80) != 0xEB31D82E {
		t.Errorf("P2.1: Step(80): %08x, though the only 1 falls out at the eighth step", Step(0x80))
	}
}

func TestBuildsOfTheFirstCall(t *testing.T) {
	if atStart != 0 {
		t.Errorf("P2.1: Builds ahead of all calls: %d", atStart)
	}
	first := []struct {
		name string
		call func()
	}{
		{"Of(nil)", func() { Of(nil) }},
		{"Of", func() { Of([]byte("a")) }},
		{"More(1, nil)", func() { More(1, nil) }},
		{"More", func() { More(1, []byte("a")) }},
		{"Step(0)", func() { Step(0) }},
		{"Step(255)", func() { Step(255) }},
	}
	for _, f := range first {
		forget()
		for range 3 {
			if n := Builds(); n != 0 {
				t.Errorf("P2.1: Builds ahead of %s: %d", f.name, n)
			}
		}
		for range 3 {
			f.call()
			if n := Builds(); n != 1 {
				t.Errorf("P2.1: Builds behind %s: %d", f.name, n)
			}
		}
	}
}

// TestAtOnce lets many begin together, round by round, each round with no table made yet.
func TestAtOnce(t *testing.T) {
	const many = 32
	for round := range 50 {
		forget()
		begin := make(chan struct{})
		var sums, steps [many]uint32
		var told [many]int
		var wait sync.WaitGroup
		for i := range many {
			wait.Go(func() {
				<-begin
				if n := Builds(); n != 0 && n != 1 {
					t.Errorf("P2.1, R5: Builds meanwhile: %d", n)
				}
				if i%2 == 0 {
					sums[i] = Of(mixed(i, round))
					steps[i] = Step(byte(i))
				} else {
					steps[i] = Step(byte(i))
					sums[i] = More(0, mixed(i, round))
				}
				told[i] = Builds()
			})
		}
		close(begin)
		wait.Wait()
		for i := range many {
			if sums[i] != plainSum(mixed(i, round)) || steps[i] != eightSteps(uint32(i)) || told[i] != 1 {
				t.Fatalf("P2.1, R5: at once, %d: sum %08x, step %08x, Builds %d", i, sums[i], steps[i], told[i])
			}
		}
	}
}

func TestNothingIsChanged(t *testing.T) {
	whole := mixed(64, 5)
	kept := bytes.Clone(whole)
	part := whole[8:40:60]
	first := Of(part)
	second := More(first, part)
	if !bytes.Equal(whole, kept) {
		t.Error("R4: what was handed in is changed, or its spare room")
	}
	if Of(part) != first || More(first, part) != second {
		t.Error("R5: the same bytes, another sum")
	}
	clear(part)
	if Of(kept[8:40]) != first {
		t.Error("R4: what was handed in is kept")
	}
}
