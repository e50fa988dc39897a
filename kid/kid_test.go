package kid

import (
	"math"
	"slices"
	"sync"
	"testing"

	"bramble/api"
)

// naive tells what is asked by looking at every byte; 0: it has no child.
type naive [256]uint32

// bytes are those of x that have a child, rising.
func (x *naive) bytes() []byte {
	var bs []byte
	for b, h := range x {
		if h != 0 {
			bs = append(bs, byte(b))
		}
	}
	return bs
}

// next looks from b upwards for a byte that has a child.
func (x *naive) next(b int) (int, uint32) {
	for i := max(b, 0); i < 256; i++ {
		if x[i] != 0 {
			return i, x[i]
		}
	}
	return -1, 0
}

// prev looks from b downwards for a byte that has a child.
func (x *naive) prev(b int) (int, uint32) {
	for i := min(b, 255); i >= 0; i-- {
		if x[i] != 0 {
			return i, x[i]
		}
	}
	return -1, 0
}

// of makes what is to be told of these bytes; each has its own number and
// 1000 more as handle.
func of(bs ...int) *naive {
	x := &naive{}
	for _, b := range bs {
		x[b] = handle(b)
	}
	return x
}

// handle is the handle that b has in these tests.
func handle(b int) uint32 { return uint32(1000 + b) }

// node makes a node of these bytes, put in this order.
func node(t *testing.T, bs ...int) *Node {
	t.Helper()
	n := New()
	for _, b := range bs {
		put(t, n, b, handle(b))
	}
	return n
}

// upTo lists the numbers from 0 up to below n.
func upTo(n int) []int {
	var bs []int
	for b := range n {
		bs = append(bs, b)
	}
	return bs
}

// mixed lists all bytes, not rising.
func mixed() []int {
	var bs []int
	for i := range 256 {
		bs = append(bs, (i*37+11)%256)
	}
	return bs
}

// put puts a child, and looks whether it is there.
func put(t *testing.T, n *Node, b int, h uint32) {
	t.Helper()
	if code := n.Put(byte(b), h); code != api.OK {
		t.Fatalf("P9.1: Put(%d, %d): code %d", b, h, code)
	}
	if got := n.Get(byte(b)); got != h {
		t.Fatalf("P9.1: Put(%d, %d), Get: %d", b, h, got)
	}
}

// drop drops a child, and looks at what is told of it; 0: there was none.
func drop(t *testing.T, n *Node, b int, want uint32) {
	t.Helper()
	if h, there := n.Drop(byte(b)); h != want || there != (want != 0) {
		t.Fatalf("P9.1: Drop(%d): %d, %v; not %d", b, h, there, want)
	}
	if got := n.Get(byte(b)); got != 0 {
		t.Fatalf("P9.1: Drop(%d), Get: %d", b, got)
	}
}

// holds looks whether n is of this kind and has just these children, and each
// way to ask for them tells so.
func holds(t *testing.T, n *Node, kind int, want *naive) {
	t.Helper()
	bs := want.bytes()
	if n.Kind() != kind || n.Len() != len(bs) || !slices.Equal(n.Bytes(), bs) {
		t.Fatalf("P9.1: kind %d, %d children, %v; not kind %d, %d children, %v", n.Kind(), n.Len(), n.Bytes(), kind, len(bs), bs)
	}
	for b, h := range want {
		if got := n.Get(byte(b)); got != h {
			t.Fatalf("P9.1: Get(%d): %d, not %d", b, got, h)
		}
	}
	asked := []int{math.MinInt, math.MinInt + 1, math.MinInt32, -256, -255, -2, math.MaxInt, math.MaxInt - 1, math.MaxInt32, 512, 511, 258}
	for b := -1; b <= 257; b++ {
		asked = append(asked, b)
	}
	for _, b := range asked {
		asks(t, n, want, b)
	}
}

// asks looks at what Next and Prev tell of b.
func asks(t *testing.T, n *Node, want *naive, b int) {
	t.Helper()
	next, h := want.next(b)
	if got, g := n.Next(b); got != next || g != h {
		t.Fatalf("P9.1: Next(%d): %d, %d; not %d, %d", b, got, g, next, h)
	}
	prev, h := want.prev(b)
	if got, g := n.Prev(b); got != prev || g != h {
		t.Fatalf("P9.1: Prev(%d): %d, %d; not %d, %d", b, got, g, prev, h)
	}
}

func TestExamples(t *testing.T) {
	n := node(t, 9, 3, 200, 0, 77)
	if n.Kind() != api.Radix16 {
		t.Fatalf("P9.1: of five bytes: kind %d", n.Kind())
	}
	drop(t, n, 200, handle(200))
	if n.Kind() != api.Radix16 {
		t.Fatalf("P9.1: one of five is dropped: kind %d", n.Kind())
	}
	// Example 5 of the whole: two of five are dropped.
	drop(t, n, 0, handle(0))
	holds(t, n, api.Radix4, of(3, 9, 77))
}

func TestNew(t *testing.T) {
	one, other := New(), New()
	if one == nil || other == nil {
		t.Fatal("P9.1: New: nil")
	}
	holds(t, one, api.Radix4, of())
	put(t, one, 5, handle(5))
	holds(t, one, api.Radix4, of(5))
	holds(t, other, api.Radix4, of())
	holds(t, New(), api.Radix4, of())
}

// grown is the kind of a node that never lost a child.
func grown(children int) int {
	switch {
	case children <= 4:
		return api.Radix4
	case children <= 16:
		return api.Radix16
	case children <= 48:
		return api.Radix48
	}
	return api.Radix256
}

// shrunk is the kind of a node that had 256 children and lost some.
func shrunk(children int) int {
	switch {
	case children <= 3:
		return api.Radix4
	case children <= 12:
		return api.Radix16
	case children <= 40:
		return api.Radix48
	}
	return api.Radix256
}

// orders are three ways to go through all bytes.
func orders() [][]int {
	falling := upTo(256)
	slices.Reverse(falling)
	return [][]int{upTo(256), falling, mixed()}
}

func TestKindsUpAndDown(t *testing.T) {
	for _, in := range orders() {
		for _, out := range orders() {
			n, want := New(), of()
			for i, b := range in {
				put(t, n, b, handle(b))
				want[b] = handle(b)
				if n.Kind() != grown(i+1) || n.Len() != i+1 {
					t.Fatalf("P9.1: with %d children, %d told: kind %d", i+1, n.Len(), n.Kind())
				}
			}
			holds(t, n, api.Radix256, want)
			for i, b := range out {
				left := 255 - i
				drop(t, n, b, handle(b))
				want[b] = 0
				if n.Kind() != shrunk(left) || n.Len() != left {
					t.Fatalf("P9.1: with %d children left, %d told: kind %d", left, n.Len(), n.Kind())
				}
			}
			holds(t, n, api.Radix4, want)
		}
	}
}

func TestEachTurn(t *testing.T) {
	// Upwards: with the last child of a kind, and with one more.
	for _, x := range []struct{ children, kind int }{
		{4, api.Radix4}, {5, api.Radix16}, {16, api.Radix16}, {17, api.Radix48},
		{48, api.Radix48}, {49, api.Radix256}, {256, api.Radix256},
	} {
		bs := mixed()[:x.children]
		holds(t, node(t, bs...), x.kind, of(bs...))
	}
	// Downwards: from just so many as make it that kind.
	for _, x := range []struct{ from, left, kind int }{
		{49, 48, api.Radix256}, {49, 41, api.Radix256}, {49, 40, api.Radix48}, {256, 41, api.Radix256}, {256, 40, api.Radix48},
		{17, 16, api.Radix48}, {17, 13, api.Radix48}, {17, 12, api.Radix16}, {48, 13, api.Radix48}, {48, 12, api.Radix16},
		{5, 4, api.Radix16}, {5, 3, api.Radix4}, {16, 4, api.Radix16}, {16, 3, api.Radix4}, {4, 0, api.Radix4},
	} {
		bs := mixed()[:x.from]
		n := node(t, bs...)
		for _, b := range bs[x.left:] {
			drop(t, n, b, handle(b))
		}
		holds(t, n, x.kind, of(bs[:x.left]...))
	}
}

func TestToAndFro(t *testing.T) {
	// Children that come and go about a turn downwards turn it once alone.
	for _, x := range []struct{ from, few, before int }{{5, 3, api.Radix4}, {17, 12, api.Radix16}, {49, 40, api.Radix48}} {
		bs := upTo(x.from)
		n := node(t, bs...)
		for _, b := range bs[x.few+1:] {
			drop(t, n, b, handle(b))
		}
		for range 3 {
			put(t, n, 255, handle(255))
			drop(t, n, 255, handle(255))
			holds(t, n, x.before+1, of(bs[:x.few+1]...))
		}
		drop(t, n, x.few, handle(x.few))
		holds(t, n, x.before, of(bs[:x.few]...))
		for range 3 {
			put(t, n, x.few, handle(x.few))
			holds(t, n, x.before, of(bs[:x.few+1]...))
			drop(t, n, x.few, handle(x.few))
			holds(t, n, x.before, of(bs[:x.few]...))
		}
	}
}

func TestPutOfOneThatIsThere(t *testing.T) {
	for _, children := range []int{1, 4, 5, 16, 17, 48, 49, 256} {
		bs := mixed()[:children]
		n, want := node(t, bs...), of(bs...)
		for i, b := range bs {
			h := uint32(math.MaxUint32 - i)
			put(t, n, b, h)
			want[b] = h
			// The same one once more.
			put(t, n, b, h)
		}
		holds(t, n, grown(children), want)
	}
	// With few left, to put one anew is not to take one away.
	n := node(t, 1, 2, 3, 4, 5)
	drop(t, n, 5, handle(5))
	put(t, n, 1, 7)
	want := of(1, 2, 3, 4)
	want[1] = 7
	holds(t, n, api.Radix16, want)
}

func TestPutOfNoHandle(t *testing.T) {
	for _, children := range []int{0, 1, 4, 5, 16, 17, 48, 49, 256} {
		bs := mixed()[:children]
		n := node(t, bs...)
		// Of bytes that have a child, and of bytes that have none.
		for b := range 256 {
			if code := n.Put(byte(b), 0); code != api.ErrArg {
				t.Fatalf("P9.1: Put(%d, 0) of %d children: code %d", b, children, code)
			}
		}
		holds(t, n, grown(children), of(bs...))
	}
}

func TestDrop(t *testing.T) {
	n := New()
	for b := range 256 {
		drop(t, n, b, 0)
	}
	holds(t, n, api.Radix4, of())
	// Of a byte that has none the kind stays, however few are left.
	for _, x := range []struct{ from, left, kind int }{{5, 4, api.Radix16}, {17, 13, api.Radix48}, {49, 41, api.Radix256}, {4, 2, api.Radix4}} {
		bs := mixed()[:x.from]
		n := node(t, bs...)
		for _, b := range bs[x.left:] {
			drop(t, n, b, handle(b))
		}
		for _, b := range mixed()[x.left:] {
			drop(t, n, b, 0)
		}
		holds(t, n, x.kind, of(bs[:x.left]...))
	}
	// One that was dropped may come again, with another handle.
	n = node(t, 0, 128, 255)
	drop(t, n, 128, handle(128))
	drop(t, n, 128, 0)
	put(t, n, 128, 1)
	want := of(0, 255)
	want[128] = 1
	holds(t, n, api.Radix4, want)
}

func TestNextAndPrev(t *testing.T) {
	n := node(t, 200, 3, 60)
	for _, x := range []struct{ b, next, prev int }{
		{3, 3, 3}, {60, 60, 60}, {200, 200, 200}, {4, 60, 3}, {59, 60, 3}, {61, 200, 60}, {199, 200, 60},
		{0, 3, -1}, {2, 3, -1}, {-1, 3, -1}, {math.MinInt, 3, -1},
		{201, -1, 200}, {255, -1, 200}, {256, -1, 200}, {259, -1, 200}, {math.MaxInt, -1, 200},
	} {
		for _, y := range []struct {
			name string
			ask  func(int) (int, uint32)
			want int
		}{{"Next", n.Next, x.next}, {"Prev", n.Prev, x.prev}} {
			h := uint32(0)
			if y.want >= 0 {
				h = handle(y.want)
			}
			if b, g := y.ask(x.b); b != y.want || g != h {
				t.Errorf("P9.1: %s(%d): %d, %d; not %d, %d", y.name, x.b, b, g, y.want, h)
			}
		}
	}
	// The ends of the bytes, and of the numbers that a mask is made of.
	for _, bs := range [][]int{{}, {0}, {255}, {0, 255}, {63}, {64}, {63, 64, 127, 128, 191, 192}, {0, 1, 254, 255}} {
		holds(t, node(t, bs...), grown(len(bs)), of(bs...))
	}
}

func TestWalks(t *testing.T) {
	bs := mixed()[:50]
	n, rising := node(t, bs...), slices.Sorted(slices.Values(bs))
	var up, down []int
	for b, h := n.Next(0); b >= 0; b, h = n.Next(b + 1) {
		up = append(up, b)
		if h != handle(b) {
			t.Fatalf("P9.1: Next tells %d of %d", h, b)
		}
	}
	for b, h := n.Prev(255); b >= 0; b, h = n.Prev(b - 1) {
		down = append(down, b)
		if h != handle(b) {
			t.Fatalf("P9.1: Prev tells %d of %d", h, b)
		}
	}
	slices.Reverse(down)
	if !slices.Equal(up, rising) || !slices.Equal(down, rising) {
		t.Fatalf("P9.1: all come once: %v, %v; not %v", up, down, rising)
	}
}

func TestHandlesOfAllSizes(t *testing.T) {
	n, want := New(), of()
	for i, h := range []uint32{1, math.MaxUint32, 1 << 31, 1<<31 - 1, 256, 1 << 24} {
		put(t, n, i*51, h)
		want[i*51] = h
	}
	// Two bytes may have the same one.
	put(t, n, 7, 1)
	want[7] = 1
	holds(t, n, api.Radix16, want)
	drop(t, n, 51, math.MaxUint32)
	drop(t, n, 0, 1)
	want[51], want[0] = 0, 0
	holds(t, n, api.Radix16, want)
}

func TestNilNode(t *testing.T) {
	var n *Node
	if n.Kind() != 0 || n.Len() != 0 || len(n.Bytes()) != 0 {
		t.Error("R3: Kind, Len or Bytes")
	}
	for _, b := range []byte{0, 1, 255} {
		for _, h := range []uint32{0, 1, math.MaxUint32} {
			if code := n.Put(b, h); code != api.ErrNil {
				t.Errorf("R3, R6: Put(%d, %d): code %d", b, h, code)
			}
		}
		if h, there := n.Drop(b); h != 0 || there || n.Get(b) != 0 {
			t.Errorf("R3: Drop or Get of %d: %d, %v", b, h, there)
		}
	}
	for _, b := range []int{math.MinInt, -1, 0, 255, 256, math.MaxInt} {
		next, h := n.Next(b)
		prev, g := n.Prev(b)
		if next != 0 || h != 0 || prev != 0 || g != 0 {
			t.Errorf("R3: Next, Prev of %d: %d, %d, %d, %d", b, next, h, prev, g)
		}
	}
}

func TestBytesAreNewMemory(t *testing.T) {
	for _, children := range []int{0, 1, 4, 5, 17, 49, 256} {
		bs := mixed()[:children]
		n, want := node(t, bs...), of(bs...)
		mine, other := n.Bytes(), n.Bytes()
		for i := range mine[:cap(mine)] {
			mine[:cap(mine)][i] = 77
		}
		_ = append(mine, 78, 79)
		if !slices.Equal(other, want.bytes()) {
			t.Fatalf("R4: two answers share memory: %v", other)
		}
		holds(t, n, grown(children), want)
		// What was answered stays as it was, whatever becomes of the node.
		for b := range 256 {
			n.Put(byte(b), 5)
		}
		for b := range 256 {
			n.Drop(byte(b))
		}
		if !slices.Equal(other, want.bytes()) {
			t.Fatalf("R4: an answer changed with the node: %v", other)
		}
	}
}

func TestAskedFromSeveralGoroutines(t *testing.T) {
	bs := mixed()[:60]
	n, want := node(t, bs...), of(bs...).bytes()
	var all sync.WaitGroup
	for range 8 {
		all.Go(func() {
			for i := range 256 {
				next, h := n.Next(i)
				prev, g := n.Prev(i)
				if next >= 0 && n.Get(byte(next)) != h || prev >= 0 && n.Get(byte(prev)) != g || n.Len() != 60 || n.Kind() != api.Radix256 || !slices.Equal(n.Bytes(), want) {
					t.Error("R5: a node that does not change tells something else")
				}
			}
		})
	}
	all.Wait()
}

// turned is the kind that a node of this kind is, behind a child that came
// (or did not) or that was taken away; children are there now.
func turned(kind, children int, taken bool) int {
	most := map[int]int{api.Radix4: 4, api.Radix16: 16, api.Radix48: 48, api.Radix256: 256}
	few := map[int]int{api.Radix4: -1, api.Radix16: 3, api.Radix48: 12, api.Radix256: 40}
	switch {
	case !taken && children > most[kind]:
		return kind + 1
	case taken && children <= few[kind]:
		return kind - 1
	}
	return kind
}

func TestMixtures(t *testing.T) {
	state := uint32(9)
	random := func(below int) int {
		state = state*1664525 + 1013904223
		return int(state>>8) % below
	}
	n, want := New(), of()
	kind, seen := api.Radix4, map[int]int{}
	for i := range 30000 {
		b := random(256)
		// By turns mostly bytes come and mostly they go.
		taken := random(10) < 2+6*(i/700%2)
		if bs := want.bytes(); taken && len(bs) > 0 && random(4) > 0 {
			b = int(bs[random(len(bs))])
		}
		switch {
		case !taken:
			h := uint32(i + 1)
			put(t, n, b, h)
			want[b] = h
			kind = turned(kind, len(want.bytes()), false)
		case want[b] != 0:
			drop(t, n, b, want[b])
			want[b] = 0
			kind = turned(kind, len(want.bytes()), true)
		default:
			drop(t, n, b, 0)
		}
		if n.Kind() != kind {
			t.Fatalf("P9.1: with %d children: kind %d, not %d", n.Len(), n.Kind(), kind)
		}
		seen[kind]++
		asks(t, n, want, random(256))
		if i%50 == 0 {
			holds(t, n, kind, want)
		}
	}
	for kind := api.Radix4; kind <= api.Radix256; kind++ {
		if seen[kind] < 50 {
			t.Fatalf("the node was of kind %d only %d times", kind, seen[kind])
		}
	}
}
