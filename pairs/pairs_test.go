package pairs

import (
	"bytes"
	"testing"

	"bramble/api"
)

func TestByKey(t *testing.T) {
	for _, x := range []struct {
		a, b string
		want int
	}{{"", "", 0}, {"", "\x00", -1}, {"a", "", 1}, {"a", "ab", -1}, {"b", "ab", 1}, {"ab", "ab", 0}} {
		a, b := api.Pair{Key: []byte(x.a), Val: 2}, api.Pair{Key: []byte(x.b), Val: 1}
		if got := ByKey(a, b); got != x.want {
			t.Errorf("ByKey(%q, %q): %d, not %d", x.a, x.b, got, x.want)
		}
	}
}

func TestTooLong(t *testing.T) {
	for long, want := range map[int]bool{0: false, 1: false, api.MaxKey: false, api.MaxKey + 1: true} {
		if got := TooLong(api.Pair{Key: make([]byte, long)}); got != want {
			t.Errorf("TooLong of %d bytes: %v", long, got)
		}
	}
}

func TestCheck(t *testing.T) {
	long := string(bytes.Repeat([]byte{0xff}, api.MaxKey+1))
	for _, x := range []struct {
		ks   []string
		want api.Errno
	}{
		{nil, api.OK},
		{[]string{""}, api.OK},
		{[]string{"", "a", "ab", "b", long[1:]}, api.OK},
		{[]string{"a", "a"}, api.ErrOrder},
		{[]string{"", ""}, api.ErrOrder},
		{[]string{"a", "b", "ab"}, api.ErrOrder},
		{[]string{"ab", "a"}, api.ErrOrder},
		{[]string{long}, api.ErrLong},
		{[]string{"b", "a", long}, api.ErrLong},
		{[]string{long, "a"}, api.ErrLong},
	} {
		var ps []api.Pair
		for _, k := range x.ks {
			ps = append(ps, api.Pair{Key: []byte(k)})
		}
		if got := Check(ps); got != x.want {
			t.Errorf("Check of %.40q: %d, not %d", x.ks, got, x.want)
		}
		if got := Rise(ps); x.want != api.ErrLong && got != (x.want == api.OK) {
			t.Errorf("Rise of %.40q: %v", x.ks, got)
		}
	}
}

func TestOwn(t *testing.T) {
	room := []byte("abc")
	p := api.Pair{Key: room[:2], Val: 7}
	own := Own(p)
	if !bytes.Equal(own.Key, p.Key) || own.Val != p.Val {
		t.Fatalf("Own: %q, %d", own.Key, own.Val)
	}
	_ = append(own.Key, 'z')
	own.Key[0] = 'z'
	if string(room) != "abc" {
		t.Errorf("R4: Own wrote over what it was given: %q", room)
	}
	room[1] = 'y'
	if string(own.Key) != "zb" {
		t.Errorf("R4: Own kept what it was given: %q", own.Key)
	}
}

func TestOwnAll(t *testing.T) {
	if own := OwnAll(nil); len(own) != 0 {
		t.Errorf("OwnAll of none: %d pairs", len(own))
	}
	ps := []api.Pair{{Key: []byte("a"), Val: 1}, {Val: 2}, {Key: []byte("b"), Val: 3}}
	own := OwnAll(ps)
	if len(own) != 3 || string(own[0].Key) != "a" || len(own[1].Key) != 0 || own[1].Val != 2 || own[2].Val != 3 {
		t.Fatalf("OwnAll: %v", own)
	}
	own[0].Key[0] = 'z'
	own[2].Val = 9
	if string(ps[0].Key) != "a" || ps[2].Val != 3 {
		t.Errorf("R4: OwnAll shares memory with what it was given: %v", ps)
	}
}

func TestShared(t *testing.T) {
	for _, x := range []struct {
		a, b string
		want int
	}{{"", "", 0}, {"", "a", 0}, {"a", "a", 1}, {"a", "b", 0}, {"ab", "abc", 2}, {"abd", "abc", 2}, {"ab\x00", "ab", 2}, {"xbc", "abc", 0}, {"a longer way to go", "a longer way", 12}} {
		if got := Shared([]byte(x.a), []byte(x.b)); got != x.want {
			t.Errorf("Shared(%q, %q): %d, not %d", x.a, x.b, got, x.want)
		}
		if got := Shared([]byte(x.b), []byte(x.a)); got != x.want {
			t.Errorf("Shared(%q, %q): %d, not %d", x.b, x.a, got, x.want)
		}
	}
}

func TestFirst(t *testing.T) {
	for n := range 4 {
		var told int
		ps := func(yield func(api.Pair) bool) {
			for told = 0; told < n; {
				told++
				if !yield(api.Pair{Val: uint64(told)}) {
					return
				}
			}
		}
		if p, ok := First(ps); ok != (n > 0) || p.Val != uint64(min(n, 1)) || told != min(n, 1) {
			t.Errorf("First of %d: %d, %v; %d were told", n, p.Val, ok, told)
		}
		for most := -2; most < 6; most++ {
			told = 0
			want := max(0, min(n, most))
			got := Firsts(ps, most)
			if len(got) != want || told != want {
				t.Errorf("Firsts of %d, at most %d: %d; %d were told", n, most, len(got), told)
			}
			for i, p := range got {
				if p.Val != uint64(i+1) {
					t.Errorf("Firsts of %d, at most %d: the %d-th is %d", n, most, i, p.Val)
				}
			}
		}
	}
}
