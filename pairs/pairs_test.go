package pairs

import (
	"bytes"
	"testing"

	"bramble/api"
)

func TestByKey(t *testing.T) {
	for _, x := range []struct {
		a, b string
		want int
	}{{"", "", 0}, {"", "\x00", -1}, {"a", "", 1}, {"a", "ab", -1}, {"b", "ab", 1}, {"ab", "ab", 0}} {
		a, b := api.Pair{Key: []byte(x.a), Val: 2}, api.Pair{Key: []byte(x.b), Val: 1}
		if got := ByKey(a, b); got != x.want {
			t.Errorf("ByKey(%q, %q): %d, not %d", x.a, x.b, got, x.want)
		}
	}
}

func TestTooLong(t *testing.T) {
	for long, want := range map[int]bool{0: false, 1: false, api.MaxKey: false, api.MaxKey + 1: true} {
		if got := TooLong(api.Pair{Key: make([]byte, long)}); got != want {
			t.Errorf("TooLong of %d bytes: %v", long, got)
		}
	}
}

func TestCheck(t *testing.T) {
	long := string(bytes.Repeat([]byte{0xff}, api.MaxKey+1))
	for _, x := range []struct {
		ks   []string
		want api.Errno
	}{
		{nil, api.OK},
		{[]string{""}, api.OK},
		{[]string{"", "a", "ab", "b", long[1:]}, api.OK},
		{[]string{"a", "a"}, api.ErrOrder},
		{[]string{"", ""}, api.ErrOrder},
		{[]string{"a", "b", "ab"}, api.ErrOrder},
		{[]string{"ab", "a"}, api.ErrOrder},
		{[]string{long}, api.ErrLong},
		{[]string{"b", "a", long}, api.ErrLong},
		{[]string{long, "a"}, api.ErrLong},
	} {
		var ps []api.Pair
		for _, k := range x.ks {
			ps = append(ps, api.Pair{Key: []byte(k)})
		}
		if got := Check(ps); got != x.want {
			t.Errorf("Check of %.40q: %d, not %d", x.ks, got, x.want)
		}
		if got := Rise(ps); x.want != api.ErrLong && got != (x.want == api.OK) {
			t.Errorf("Rise of %.40q: %v", x.ks, got)
		}
	}
}

func TestOwn(t *testing.T) {
	room := []byte("abc")
	p := api.Pair{Key: room[:2], Val: 7}
	own := Own(p)
	if !bytes.Equal(own.Key, p.Key) || own.Val != p.Val {
		t.Fatalf("Own: %q, %d", own.Key, own.Val)
	}
	_ = append(own.Key, 'z')
	own.Key[0] = 'z'
	if string(room) != "abc" {
		t.Errorf("R4: Own wrote over what it was given: %q", room)
	}
	room[1] = 'y'
	if string(own.Key) != "zb" {
		t.Errorf("R4: Own kept what it was given: %q", own.Key)
	}
}

func TestOwnAll(t *testing.T) {
	if own := OwnAll(nil); len(own) != 0 {
		t.Errorf("OwnAll of none: %d pairs", len(own))
	}
	ps := []api.Pair{{Key: []byte("a"), Val: 1}, {Val: 2}, {Key: []byte("b"), Val: 3}}
	own := OwnAll(ps)
	if len(own) != 3 || string(own[0].Key) != "a" || len(own[1].Key) != 0 || own[1].Val != 2 || own[2].Val != 3 {
		t.Fatalf("OwnAll: %v", own)
	}
	own[0].Key[0] = 'z'
	own[2].Val = 9
	if string(ps[0].Key) != "a" || ps[2].Val != 3 {
		t.Errorf("R4: OwnAll shares memory with what it was given: %v", ps)
	}
}
