package store

import (
	"bytes"
	"math"
	"testing"

	"bramble/api"
)

func TestNew(t *testing.T) {
	for most, want := range map[int]bool{math.MinInt: false, -1: false, 0: true, 7: true, api.MaxCells: true, api.MaxCells + 1: false, math.MaxInt: false} {
		s := New(most)
		if (s != nil) != want {
			t.Errorf("New(%d): nil: %v", most, s == nil)
		}
		if want && (s.Most() != most || s.Live() != 0) {
			t.Errorf("New(%d): Most %d, Live %d", most, s.Most(), s.Live())
		}
	}
	var none *Store
	if n := none.Most() + none.Live() + none.Size(1); n != 0 {
		t.Errorf("of no store: Most, Live, Size: %d", n)
	}
}

func TestCells(t *testing.T) {
	s := New(3)
	a, b := s.Take(7, 8), s.Take()
	if a == 0 || b == 0 || a == b || s.Live() != 2 {
		t.Fatalf("Take: %d, %d; %d are live", a, b, s.Live())
	}
	s.Set(a, 1, 9)
	if s.Word(a, 0) != 7 || s.Word(a, 1) != 9 || s.Size(a) != 2 || s.Size(b) != 0 || s.Size(0) != 0 {
		t.Errorf("words: %d, %d; sizes %d, %d", s.Word(a, 0), s.Word(a, 1), s.Size(a), s.Size(b))
	}
	s.Give(a)
	if s.Live() != 1 || s.Most() != 3 || s.Size(a) != 0 {
		t.Errorf("Give: %d are live, of %d", s.Live(), s.Most())
	}
}

func TestTexts(t *testing.T) {
	s := New(0)
	given := []byte("abc")
	a, b, c := s.Keep(given), s.Keep(nil), s.Keep([]byte("d"))
	given[0] = 'z'
	if string(s.Text(a)) != "abc" || len(s.Text(b)) != 0 || string(s.Text(c)) != "d" {
		t.Errorf("texts: %q, %q, %q", s.Text(a), s.Text(b), s.Text(c))
	}
	s.Text(a)[1] = 'z'
	s.Forget(b)
	if string(s.Text(a)) != "abc" || string(s.Text(c)) != "d" {
		t.Errorf("texts: %q, %q", s.Text(a), s.Text(c))
	}
}

// More bytes than one pool keeps are kept in several, and those that were let
// go leave room for others.
func TestManyTexts(t *testing.T) {
	s := New(0)
	const most = 2*api.MaxSpan/api.MaxKey + 9
	var texts []uint64
	long := func(i int) []byte { return bytes.Repeat([]byte{byte(i), byte(i >> 8)}, api.MaxKey/2) }
	for i := range most {
		texts = append(texts, s.Keep(long(i)))
	}
	pools := len(s.pools)
	for i, text := range texts {
		if !bytes.Equal(s.Text(text), long(i)) {
			t.Fatalf("text %d is another one", i)
		}
		s.Forget(text)
		texts[i] = s.Keep(long(i + 1))
	}
	for i, text := range texts {
		if !bytes.Equal(s.Text(text), long(i+1)) {
			t.Fatalf("text %d is another one", i)
		}
	}
	if len(s.pools) != pools || pools != 3 {
		t.Errorf("%d pools, and then %d", pools, len(s.pools))
	}
}
