package shelf

import (
	"bytes"
	"fmt"
	"math"
	"slices"
	"strings"
	"sync"
	"testing"

	"bramble/api"
)

// pair makes a pair of this key and this value.
func pair(k string, v uint64) api.Pair { return api.Pair{Key: []byte(k), Val: v} }

// told is a text of these pairs, of long keys but their beginnings.
func told(ps ...api.Pair) string {
	var out []string
	for _, p := range ps {
		out = append(out, fmt.Sprintf("%.20q=%d", p.Key, p.Val))
	}
	return "{" + strings.Join(out, " ") + "}"
}

// toldLists is a text of these lists.
func toldLists(lists [][]api.Pair) string {
	var out []string
	for _, ps := range lists {
		out = append(out, told(ps...))
	}
	return strings.Join(out, ", ")
}

// alike tells whether two lists hold the same pairs.
func alike(a, b []api.Pair) bool {
	return slices.EqualFunc(a, b, func(x, y api.Pair) bool {
		return x.Val == y.Val && bytes.Equal(x.Key, y.Key)
	})
}

// holds looks whether s holds these pairs, in this order, and each way to ask
// for one tells it.
func holds(t *testing.T, s *Shelf, want ...api.Pair) {
	t.Helper()
	if s == nil {
		t.Fatal("P8.1: the shelf is nil")
	}
	if n := s.Len(); n != len(want) {
		t.Fatalf("P8.1: Len: %d, not %d", n, len(want))
	}
	for i, p := range want {
		if got, ok := s.At(i); !ok || !alike([]api.Pair{got}, []api.Pair{p}) {
			t.Fatalf("P8.1: At(%d): %s, %v; not %s", i, told(got), ok, told(p))
		}
		finds(t, s, string(p.Key), i, true)
	}
	for _, i := range []int{math.MinInt, -len(want), -1, len(want), len(want) + 1, api.ShelfMost, math.MaxInt} {
		if got, ok := s.At(i); ok || got.Key != nil || got.Val != 0 {
			t.Fatalf("P8.1, R2: At(%d) of none: %s, %v", i, told(got), ok)
		}
	}
}

// finds looks at how many keys are told to stand ahead of k, and whether it
// is told to be there.
func finds(t *testing.T, s *Shelf, k string, ahead int, there bool) {
	t.Helper()
	if n, ok := s.Find([]byte(k)); n != ahead || ok != there {
		t.Fatalf("P8.1: Find(%.20q): %d, %v; not %d, %v", k, n, ok, ahead, there)
	}
}

// put puts a pair, and looks at what is told of the value that k had.
func put(t *testing.T, s *Shelf, k string, v, had uint64, there bool) {
	t.Helper()
	if got, ok, code := s.Put([]byte(k), v); got != had || ok != there || code != api.OK {
		t.Fatalf("P8.1: Put(%.20q, %d): %d, %v, code %d; not %d, %v", k, v, got, ok, code, had, there)
	}
}

// refuses looks whether a pair is refused with this code.
func refuses(t *testing.T, s *Shelf, k string, want api.Errno) {
	t.Helper()
	if got, ok, code := s.Put([]byte(k), 77); got != 0 || ok || code != want {
		t.Fatalf("P8.1, R2: Put of %d bytes: %d, %v, code %d; not code %d", len(k), got, ok, code, want)
	}
}

// drop drops a key, and looks at what is told of the value that k had.
func drop(t *testing.T, s *Shelf, k string, had uint64, there bool) {
	t.Helper()
	if got, ok := s.Drop([]byte(k)); got != had || ok != there {
		t.Fatalf("P8.1: Drop(%.20q): %d, %v; not %d, %v", k, got, ok, had, there)
	}
}

// splits looks at how s is split.
func splits(t *testing.T, s *Shelf, bare []api.Pair, lists ...[]api.Pair) {
	t.Helper()
	one, others := s.Split()
	if !alike(one, bare) || !slices.EqualFunc(others, lists, alike) {
		t.Fatalf("P8.1: Split: %s, %s; not %s, %s", told(one...), toldLists(others), told(bare...), toldLists(lists))
	}
}

// full are as many pairs as a shelf may hold.
func full() []api.Pair {
	return []api.Pair{pair("", 1), pair("a", 2), pair("ab", 3), pair("abd", 4), pair("b", 5), pair("b\x00", 6), pair("d", 7), pair("\xff", 8)}
}

func TestExample(t *testing.T) {
	s := New(pair("", 1), pair("a", 2), pair("ab", 3))
	splits(t, s, []api.Pair{pair("", 1)}, []api.Pair{pair("", 2), pair("b", 3)})
	holds(t, s, pair("", 1), pair("a", 2), pair("ab", 3))
}

func TestNew(t *testing.T) {
	long := strings.Repeat("x", api.MaxKey)
	for i, ps := range [][]api.Pair{
		nil,
		{},
		{{}},
		{{Key: []byte{}}},
		{pair("a", 0)},
		{pair("a", 2), pair("b", 1)},
		{pair("a", 1), pair("a\x00", 1)},
		{pair("", 1), pair("\x00", 1), pair("\x7f", 1), pair("\x80", 1), pair("\xff", 1)},
		{pair("a", math.MaxUint64)},
		{pair(long, 3)},
		{pair("", 1), pair(long[1:], 2), pair(long, 3), pair("y", 4)},
		full()[1:],
		full(),
	} {
		s := New(ps...)
		if s == nil {
			t.Fatalf("P8.1: New, the %d-th: nil", i)
		}
		holds(t, s, ps...)
	}
}

func TestNewOfWhatMayNotBe(t *testing.T) {
	long := strings.Repeat("x", api.MaxKey+1)
	for i, ps := range [][]api.Pair{
		append(full(), pair("\xff\xff", 9)),
		append(full(), full()...),
		make([]api.Pair, api.ShelfMost+1),
		{pair("b", 1), pair("a", 2)},
		{pair("a\x00", 1), pair("a", 2)},
		{pair("a", 1), pair("", 2)},
		{pair("a", 1), pair("c", 2), pair("b", 3)},
		{pair("b", 1), pair("a", 2), pair("c", 3)},
		{pair("a", 1), pair("b", 2), pair("a", 3)},
		{pair("a", 1), pair("a", 2)},
		{pair("a", 1), pair("a", 1)},
		{pair("a", 1), pair("b", 2), pair("b", 2)},
		{{}, {}},
		{{Key: nil, Val: 1}, {Key: []byte{}, Val: 2}},
		{pair(long, 1)},
		{pair("a", 1), pair(long, 2), pair("y", 3)},
		{pair(long, 1), pair("y", 2)},
		{pair("a", 1), pair(long, 2)},
		{pair(long+long, 1)},
	} {
		if s := New(ps...); s != nil {
			t.Errorf("P8.1: New, the %d-th: a shelf of %d", i, s.Len())
		}
	}
}

func TestPutAndDrop(t *testing.T) {
	s := New()
	holds(t, s)
	put(t, s, "b", 1, 0, false)
	put(t, s, "b", 2, 1, true)
	put(t, s, "b", 0, 2, true)
	put(t, s, "b", 3, 0, true)
	holds(t, s, pair("b", 3))
	put(t, s, "a", 0, 0, false)
	put(t, s, "c", math.MaxUint64, 0, false)
	put(t, s, "", 4, 0, false)
	put(t, s, "bb", 5, 0, false)
	holds(t, s, pair("", 4), pair("a", 0), pair("b", 3), pair("bb", 5), pair("c", math.MaxUint64))
	drop(t, s, "ba", 0, false)
	drop(t, s, "d", 0, false)
	drop(t, s, "\x00", 0, false)
	drop(t, s, "a", 0, true)
	drop(t, s, "a", 0, false)
	drop(t, s, "c", math.MaxUint64, true)
	drop(t, s, "", 4, true)
	drop(t, s, "", 0, false)
	holds(t, s, pair("b", 3), pair("bb", 5))
	put(t, s, "a", 6, 0, false)
	holds(t, s, pair("a", 6), pair("b", 3), pair("bb", 5))
	for _, p := range []api.Pair{pair("b", 3), pair("bb", 5), pair("a", 6)} {
		drop(t, s, string(p.Key), p.Val, true)
	}
	// A shelf that has no pair any more is as one that never had.
	holds(t, s)
	splits(t, s, nil)
	drop(t, s, "a", 0, false)
	finds(t, s, "a", 0, false)
	put(t, s, "z", 9, 0, false)
	holds(t, s, pair("z", 9))
}

func TestFull(t *testing.T) {
	// Once made full at once, once filled one by one.
	one := New()
	for i, p := range full() {
		holds(t, one, full()[:i]...)
		put(t, one, string(p.Key), p.Val, 0, false)
	}
	for _, s := range []*Shelf{New(full()...), one} {
		for _, k := range []string{"\x00", "aa", "abc", "c", "\xff\xff", strings.Repeat("c", api.MaxKey)} {
			refuses(t, s, k, api.ErrFull)
		}
		holds(t, s, full()...)
		want := full()
		for i, p := range full() {
			want[i].Val = p.Val + 10
			put(t, s, string(p.Key), p.Val+10, p.Val, true)
			holds(t, s, want...)
		}
		drop(t, s, "ab", 13, true)
		put(t, s, "aa", 20, 0, false)
		want[2] = pair("aa", 20)
		holds(t, s, want...)
		refuses(t, s, "ab", api.ErrFull)
		holds(t, s, want...)
	}
}

func TestLongKeys(t *testing.T) {
	long := strings.Repeat("k", api.MaxKey)
	s := New(pair("k", 1), pair("l", 2))
	for _, k := range []string{long + "k", long + "\x00", long + long} {
		refuses(t, s, k, api.ErrLong)
		drop(t, s, k, 0, false)
		// It may be asked for: it stands somewhere too.
		finds(t, s, k, 1, false)
	}
	holds(t, s, pair("k", 1), pair("l", 2))
	put(t, s, long, 3, 0, false)
	put(t, s, long, 4, 3, true)
	holds(t, s, pair("k", 1), pair(long, 4), pair("l", 2))
	finds(t, s, long+"k", 2, false)
	splits(t, s, nil, []api.Pair{pair("", 1), pair(long[1:], 4)}, []api.Pair{pair("", 2)})
	drop(t, s, long+"k", 0, false)
	drop(t, s, long, 4, true)
	// A full shelf tells first that a key may not be.
	refuses(t, New(full()...), long+"k", api.ErrLong)
}

func TestFind(t *testing.T) {
	s := New(full()...)
	for _, x := range []struct {
		k     string
		ahead int
		there bool
	}{
		{"", 0, true}, {"\x00", 1, false}, {"a", 1, true}, {"a\x00", 2, false}, {"aa", 2, false}, {"ab", 2, true},
		{"abc", 3, false}, {"abd", 3, true}, {"abdabd", 4, false}, {"ac", 4, false}, {"b", 4, true}, {"b\x00", 5, true},
		{"b\x00\x00", 6, false}, {"c", 6, false}, {"d", 6, true}, {"\xfe\xff", 7, false}, {"\xff", 7, true}, {"\xff\x00", 8, false},
	} {
		finds(t, s, x.k, x.ahead, x.there)
	}
	s = New(pair("b", 1), pair("bb", 2), pair("d", 3))
	for _, k := range []string{"", "\x00", "a", "azz"} {
		finds(t, s, k, 0, false)
	}
	for _, k := range []string{"d\x00", "dd", "e", "\xff"} {
		finds(t, s, k, 3, false)
	}
	finds(t, s, "c", 2, false)
	finds(t, New(), "", 0, false)
	finds(t, New(), "a", 0, false)
}

func TestKeyWithoutBytes(t *testing.T) {
	for _, kept := range [][]byte{nil, {}} {
		for _, k := range [][]byte{nil, {}} {
			s := New()
			if v, ok, code := s.Put(kept, 7); v != 0 || ok || code != api.OK {
				t.Fatalf("P8.1: Put of the key without bytes: %d, %v, code %d", v, ok, code)
			}
			if n, ok := s.Find(k); n != 0 || !ok {
				t.Fatalf("P8.1: Find of the key without bytes: %d, %v", n, ok)
			}
			if v, ok, code := s.Put(k, 8); v != 7 || !ok || code != api.OK {
				t.Fatalf("P8.1: Put of the key without bytes: %d, %v, code %d", v, ok, code)
			}
			holds(t, s, pair("", 8))
			splits(t, s, []api.Pair{pair("", 8)})
			if v, ok := s.Drop(k); v != 8 || !ok || s.Len() != 0 {
				t.Fatalf("P8.1: Drop of the key without bytes: %d, %v", v, ok)
			}
			holds(t, New(api.Pair{Key: kept, Val: 3}, pair("a", 4)), pair("", 3), pair("a", 4))
		}
	}
}

func TestSplit(t *testing.T) {
	bare := []api.Pair{pair("", 1)}
	for _, x := range []struct {
		in, bare []api.Pair
		lists    [][]api.Pair
	}{
		{},
		{in: bare, bare: bare},
		{in: []api.Pair{pair("a", 2)}, lists: [][]api.Pair{{pair("", 2)}}},
		{in: []api.Pair{pair("\x00", 2)}, lists: [][]api.Pair{{pair("", 2)}}},
		{in: []api.Pair{pair("\x00\x00", 2)}, lists: [][]api.Pair{{pair("\x00", 2)}}},
		{in: []api.Pair{pair("", 1), pair("\x00", 2)}, bare: bare, lists: [][]api.Pair{{pair("", 2)}}},
		{in: []api.Pair{pair("", 0), pair("a", 0)}, bare: []api.Pair{pair("", 0)}, lists: [][]api.Pair{{pair("", 0)}}},
		{in: []api.Pair{pair("a", 3), pair("b", 2), pair("c", 1)}, lists: [][]api.Pair{{pair("", 3)}, {pair("", 2)}, {pair("", 1)}}},
		{in: []api.Pair{pair("aa", 3), pair("ab", 2), pair("abc", 1)}, lists: [][]api.Pair{{pair("a", 3), pair("b", 2), pair("bc", 1)}}},
		{in: []api.Pair{pair("ax", 1), pair("bx", 2), pair("by", 3), pair("cx", 4)}, lists: [][]api.Pair{{pair("x", 1)}, {pair("x", 2), pair("y", 3)}, {pair("x", 4)}}},
		{in: full(), bare: bare, lists: [][]api.Pair{{pair("", 2), pair("b", 3), pair("bd", 4)}, {pair("", 5), pair("\x00", 6)}, {pair("", 7)}, {pair("", 8)}}},
		{in: full()[1:], lists: [][]api.Pair{{pair("", 2), pair("b", 3), pair("bd", 4)}, {pair("", 5), pair("\x00", 6)}, {pair("", 7)}, {pair("", 8)}}},
	} {
		s := New(x.in...)
		splits(t, s, x.bare, x.lists...)
		// To split it changes nothing.
		holds(t, s, x.in...)
		splits(t, s, x.bare, x.lists...)
	}
	// Its lists are shelves again.
	_, lists := New(full()...).Split()
	holds(t, New(lists[0]...), pair("", 2), pair("b", 3), pair("bd", 4))
}

func TestNilShelf(t *testing.T) {
	var s *Shelf
	for _, k := range [][]byte{nil, {}, []byte("a"), make([]byte, api.MaxKey+1)} {
		if v, ok, code := s.Put(k, 1); v != 0 || ok || code != api.ErrNil {
			t.Errorf("R3, R6: Put of %d bytes: %d, %v, code %d", len(k), v, ok, code)
		}
		if v, ok := s.Drop(k); v != 0 || ok {
			t.Errorf("R3: Drop: %d, %v", v, ok)
		}
		if n, ok := s.Find(k); n != 0 || ok {
			t.Errorf("R3: Find: %d, %v", n, ok)
		}
	}
	for _, i := range []int{-1, 0, 1} {
		if p, ok := s.At(i); ok || p.Key != nil || p.Val != 0 {
			t.Errorf("R3: At(%d): %s, %v", i, told(p), ok)
		}
	}
	if one, lists := s.Split(); s.Len() != 0 || len(one) != 0 || len(lists) != 0 {
		t.Error("R3: Len or Split")
	}
}

// roomy makes a key with room behind its end, all of it dashes.
func roomy(k string) []byte {
	whole := append([]byte(k), "--------"...)
	return whole[:len(k):len(whole)]
}

// scribble writes over a key, and over all of the room behind its end.
func scribble(k []byte) {
	for i := range k[:cap(k)] {
		k[:cap(k)][i] = '#'
	}
}

// scribblePairs writes over a list, over its keys, and over the room behind
// the ends of both.
func scribblePairs(ps []api.Pair) {
	for _, p := range ps[:cap(ps)] {
		scribble(p.Key)
	}
	for i := range ps[:cap(ps)] {
		ps[:cap(ps)][i] = pair("#", 99)
	}
}

func TestHandedInIsNeitherChangedNorKept(t *testing.T) {
	for _, in := range [][]string{{"a", "b", "c"}, {"b", "c", "a"}} {
		ps := make([]api.Pair, 0, len(in)+2)
		for i, k := range in {
			ps = append(ps, api.Pair{Key: roomy(k), Val: uint64(i)})
		}
		spare := ps[:cap(ps)]
		spare[len(in)], spare[len(in)+1] = pair("s", 50), pair("t", 51)
		s := New(ps...)
		// It grows into room of its own.
		s.Put([]byte("aa"), 9)
		s.Put([]byte("d"), 9)
		for i, k := range append(in, "s", "t") {
			if string(spare[i].Key) != k || i < len(in) && (string(spare[i].Key[:len(k)+8]) != k+"--------" || spare[i].Val != uint64(i)) {
				t.Fatalf("R4: New changed the %d-th pair", i)
			}
		}
		scribblePairs(ps)
		if in[0] == "a" {
			holds(t, s, pair("a", 0), pair("aa", 9), pair("b", 1), pair("c", 2), pair("d", 9))
		}
	}

	s := New(pair("a", 1), pair("c", 2))
	// Put twice: of a key that is not there, and of one that is.
	for _, call := range []func([]byte){
		func(k []byte) { s.Put(k, 7) },
		func(k []byte) { s.Put(k, 7) },
		func(k []byte) { s.Find(k) },
	} {
		k := roomy("bb")
		call(k)
		if string(k[:cap(k)]) != "bb--------" {
			t.Fatalf("R4: a key that was handed in is %q", k[:cap(k)])
		}
		scribble(k)
		holds(t, s, pair("a", 1), pair("bb", 7), pair("c", 2))
	}
	k := roomy("bb")
	if v, ok := s.Drop(k); v != 7 || !ok || string(k[:cap(k)]) != "bb--------" {
		t.Fatalf("R4: Drop: %d, %v, %q", v, ok, k[:cap(k)])
	}
}

// everyList are all lists that Split answered.
func everyList(s *Shelf) [][]api.Pair {
	one, lists := s.Split()
	return append([][]api.Pair{one}, lists...)
}

func TestAnswersShareNothing(t *testing.T) {
	s := New(full()...)
	first, _ := s.At(3)
	second, _ := s.At(3)
	scribble(first.Key)
	if string(second.Key) != "abd" {
		t.Fatalf("R4: two answers share memory: %q", second.Key)
	}
	holds(t, s, full()...)

	want := everyList(s)
	mine, other := everyList(s), everyList(s)
	for i, ps := range mine {
		// Key by key, so that no key lies behind another one of its list.
		for j, p := range ps {
			scribble(p.Key)
			if !alike(ps[j+1:], want[i][j+1:]) {
				t.Fatalf("R4: keys of one list share memory: %s", told(ps...))
			}
		}
		scribblePairs(ps)
		if !slices.EqualFunc(mine[i+1:], want[i+1:], alike) {
			t.Fatalf("R4: lists of one answer share memory: %s", toldLists(mine))
		}
	}
	if !slices.EqualFunc(other, want, alike) {
		t.Fatalf("R4: two answers share memory: %s", toldLists(other))
	}
	_, lists := s.Split()
	clear(lists[:cap(lists)])
	holds(t, s, full()...)
	splits(t, s, want[0], want[1:]...)
}

func TestAnswersStayAsTheyWere(t *testing.T) {
	s := New(full()...)
	p, _ := s.At(2)
	lists, want := everyList(s), everyList(New(full()...))
	for _, q := range full() {
		s.Put(q.Key, 100)
	}
	for _, q := range full() {
		s.Drop(q.Key)
	}
	put(t, s, "zz", 1, 0, false)
	if !alike([]api.Pair{p}, full()[2:3]) || !slices.EqualFunc(lists, want, alike) {
		t.Fatalf("R4: an answer changed with the shelf: %s; %s", told(p), toldLists(lists))
	}
}

func TestShelvesOfOneListShareNothing(t *testing.T) {
	ps := []api.Pair{pair("a", 1), pair("b", 2), pair("c", 3)}
	one, other := New(ps...), New(ps...)
	put(t, one, "d", 4, 0, false)
	put(t, other, "e", 5, 0, false)
	put(t, one, "a", 6, 1, true)
	drop(t, other, "b", 2, true)
	holds(t, one, pair("a", 6), pair("b", 2), pair("c", 3), pair("d", 4))
	holds(t, other, pair("a", 1), pair("c", 3), pair("e", 5))
}

func TestAskedFromSeveralGoroutines(t *testing.T) {
	s, want := New(full()...), everyList(New(full()...))
	var all sync.WaitGroup
	for range 8 {
		all.Go(func() {
			for range 50 {
				n, there := s.Find([]byte("b"))
				p, ok := s.At(2)
				if n != 4 || !there || !ok || p.Val != 3 || s.Len() != 8 || !slices.EqualFunc(everyList(s), want, alike) || New(full()...).Len() != 8 {
					t.Error("R5: a shelf that does not change tells something else")
				}
			}
		})
	}
	all.Wait()
}

// naive tells what is asked by looking at every key of a Go map.
type naive map[string]uint64

// pairs are those of n, by rising keys.
func (n naive) pairs() []api.Pair {
	var ps []api.Pair
	for k, v := range n {
		ps = append(ps, pair(k, v))
	}
	slices.SortFunc(ps, func(a, b api.Pair) int { return bytes.Compare(a.Key, b.Key) })
	return ps
}

// ahead tells how many keys of n stand ahead of k.
func (n naive) ahead(k string) int {
	count := 0
	for other := range n {
		if other < k {
			count++
		}
	}
	return count
}

// split is what Split is to tell of n: byte for byte all keys are looked at.
func (n naive) split() ([]api.Pair, [][]api.Pair) {
	var bare []api.Pair
	var lists [][]api.Pair
	for first := range 256 {
		var ps []api.Pair
		for _, p := range n.pairs() {
			if len(p.Key) > 0 && int(p.Key[0]) == first {
				ps = append(ps, pair(string(p.Key[1:]), p.Val))
			}
		}
		if len(ps) > 0 {
			lists = append(lists, ps)
		}
	}
	if v, ok := n[""]; ok {
		bare = append(bare, pair("", v))
	}
	return bare, lists
}

func TestMixtures(t *testing.T) {
	state := uint32(7)
	next := func(below int) int {
		state = state*1664525 + 1013904223
		return int(state>>8) % below
	}
	word := func() string {
		k := make([]byte, next(4))
		for i := range k {
			k[i] = "\x00ab\xff"[next(4)]
		}
		return string(k)
	}
	s, n := New(), naive{}
	fulls := 0
	for i := range 4000 {
		k := word()
		had, there := n[k]
		switch {
		case next(3) == 0:
			drop(t, s, k, had, there)
			delete(n, k)
		case !there && len(n) == api.ShelfMost:
			refuses(t, s, k, api.ErrFull)
			fulls++
		default:
			put(t, s, k, uint64(i), had, there)
			n[k] = uint64(i)
		}
		holds(t, s, n.pairs()...)
		asked := word()
		_, there = n[asked]
		finds(t, s, asked, n.ahead(asked), there)
		if i%16 == 0 {
			bare, lists := n.split()
			splits(t, s, bare, lists...)
			holds(t, New(n.pairs()...), n.pairs()...)
		}
	}
	if fulls < 50 {
		t.Fatalf("the shelf was full only %d times", fulls)
	}
}
