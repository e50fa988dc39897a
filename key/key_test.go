package key

import (
	"bytes"
	"math"
	"strings"
	"sync"
	"testing"

	"bramble/api"
)

// sample lists all keys of up to three bytes out of a few, those at the edges among them.
func sample() [][]byte {
	few := []byte{0x00, 0x01, 'a', 0x80, 0xfe, 0xff}
	all := [][]byte{nil}
	last := all
	for range 3 {
		var longer [][]byte
		for _, k := range last {
			for _, b := range few {
				longer = append(longer, append(bytes.Clone(k), b))
			}
		}
		all = append(all, longer...)
		last = longer
	}
	return all
}

// bitsOf writes a key's bits out, without the zeros behind its last byte.
func bitsOf(k []byte) string {
	var s strings.Builder
	for _, b := range k {
		s.WriteByte('1')
		for mask := byte(0x80); mask != 0; mask >>= 1 {
			if b&mask != 0 {
				s.WriteByte('1')
			} else {
				s.WriteByte('0')
			}
		}
	}
	return s.String()
}

// firstUnlike holds the bits of two keys against each other, one by one.
func firstUnlike(a []byte, b []byte) int {
	x, y := bitsOf(a), bitsOf(b)
	n := max(len(x), len(y))
	x += strings.Repeat("0", n-len(x))
	y += strings.Repeat("0", n-len(y))
	for i := range n {
		if x[i] != y[i] {
			return i
		}
	}
	return -1
}

func commonOf(a []byte, b []byte) int {
	for n := min(len(a), len(b)); n > 0; n-- {
		if string(a[:n]) == string(b[:n]) {
			return n
		}
	}
	return 0
}

func TestMay(t *testing.T) {
	for _, n := range []int{0, 1, api.MaxKey - 1, api.MaxKey} {
		if !May(make([]byte, n)) {
			t.Errorf("a key of %d bytes may be", n)
		}
	}
	for _, n := range []int{api.MaxKey + 1, 2 * api.MaxKey, 1 << 20} {
		if May(make([]byte, n)) {
			t.Errorf("a key of %d bytes may not be", n)
		}
	}
	if !May(nil) || !May(make([]byte, 0, api.MaxKey+1)) || !May(make([]byte, api.MaxKey, 2*api.MaxKey)) {
		t.Error("spare room is not of the key")
	}
}

func TestPairsOfKeys(t *testing.T) {
	all := sample()
	for _, a := range all {
		for _, b := range all {
			if got, want := Compare(a, b), bytes.Compare(a, b); got != want {
				t.Errorf("P1.1: Compare(%q, %q): %d, not %d", a, b, got, want)
			}
			if got, want := Common(a, b), commonOf(a, b); got != want {
				t.Errorf("P1.1: Common(%q, %q): %d, not %d", a, b, got, want)
			}
			if got, want := Differ(a, b), firstUnlike(a, b); got != want {
				t.Errorf("P1.1: Differ(%q, %q): %d, not %d", a, b, got, want)
			}
			if got, want := Begins(a, b), strings.HasPrefix(string(a), string(b)); got != want {
				t.Errorf("P1.1: Begins(%q, %q): %v", a, b, got)
			}
		}
	}
}

func TestNilIsAKeyWithoutBytes(t *testing.T) {
	empty := []byte{}
	for _, x := range [][2][]byte{{nil, nil}, {nil, empty}, {empty, nil}, {empty, empty}} {
		if Compare(x[0], x[1]) != 0 || Common(x[0], x[1]) != 0 || Differ(x[0], x[1]) != -1 || !Begins(x[0], x[1]) {
			t.Error("P1.1: nil and empty are the same key")
		}
	}
	if Compare(nil, []byte{0}) != -1 || Compare([]byte{0}, nil) != 1 || Differ(nil, []byte{0}) != 0 {
		t.Error("P1.1: a key without bytes stands ahead of all others")
	}
	if !Begins([]byte("a"), nil) || Begins(nil, []byte("a")) {
		t.Error("P1.1: a key without bytes is a beginning of all others")
	}
}

func TestEachByteStandsInOrder(t *testing.T) {
	for a := range 256 {
		for b := range 256 {
			x, y := []byte{'k', byte(a), 7}, []byte{'k', byte(b), 7}
			want := 0
			if a < b {
				want = -1
			} else if a > b {
				want = 1
			}
			if got := Compare(x, y); got != want {
				t.Fatalf("P1.1: Compare of bytes %d and %d: %d", a, b, got)
			}
			if got, want := Differ(x, y), firstUnlike(x, y); got != want {
				t.Fatalf("P1.1: Differ of bytes %d and %d: %d, not %d", a, b, got, want)
			}
		}
	}
}

func TestTheOrderIsThatOfTheBits(t *testing.T) {
	all := sample()
	for _, a := range all {
		for _, b := range all {
			d := Differ(a, b)
			if d >= 0 && (Bit(a, d) < Bit(b, d)) != (Compare(a, b) < 0) {
				t.Errorf("P1.1: %q and %q: the one with a 0 stands ahead", a, b)
			}
		}
	}
}

func TestBit(t *testing.T) {
	for b := range 256 {
		k := []byte{byte(b), ^byte(b)}
		want := bitsOf(k)
		for i := range want {
			if got := Bit(k, i); got != int(want[i]-'0') {
				t.Fatalf("P1.1: Bit(%x, %d): %d", k, i, got)
			}
		}
	}
}

func TestBitsOutsideAreZeros(t *testing.T) {
	k := []byte{0xff, 0xff}
	for _, i := range []int{math.MinInt, -10, -9, -8, -1, 18, 19, 26, 27, 1 << 40, math.MaxInt} {
		if got := Bit(k, i); got != 0 {
			t.Errorf("P1.1: Bit(%x, %d): %d", k, i, got)
		}
	}
	for _, i := range []int{-1, 0, 1, 9} {
		if Bit(nil, i) != 0 || Bit([]byte{}, i) != 0 {
			t.Errorf("P1.1: bit %d of a key without bytes", i)
		}
	}
	spare := []byte{0x00, 0xff}
	if Bit(spare[:1], 9) != 0 || Bit(spare[:1], 10) != 0 {
		t.Error("P1.1: spare room is not of the key")
	}
}

func TestLongKeys(t *testing.T) {
	for _, n := range []int{api.MaxKey, api.MaxKey + 1} {
		a := bytes.Repeat([]byte{'x'}, n)
		b := bytes.Clone(a)
		if Compare(a, b) != 0 || Common(a, b) != n || Differ(a, b) != -1 || !Begins(a, b) {
			t.Errorf("P1.1: equal keys of %d bytes", n)
		}
		b[n-1]++
		if Compare(a, b) != -1 || Compare(b, a) != 1 || Common(a, b) != n-1 || Begins(a, b) {
			t.Errorf("P1.1: the last of %d bytes counts", n)
		}
		if got := Differ(a, b); got != 9*n-1 { // 'x' and 'y' differ in the lowest bit
			t.Errorf("P1.1: Differ of keys of %d bytes: %d", n, got)
		}
		short := a[:n-1]
		if Compare(short, a) != -1 || Compare(a, short) != 1 || !Begins(a, short) || Begins(short, a) {
			t.Errorf("P1.1: a beginning of a key of %d bytes stands ahead of it", n)
		}
		if got := Differ(short, a); got != 9*(n-1) {
			t.Errorf("P1.1: Differ of a beginning and a key of %d bytes: %d", n, got)
		}
		if Bit(a, 9*(n-1)) != 1 || Bit(a, 9*n-5) != 1 || Bit(a, 9*n) != 0 {
			t.Errorf("P1.1: the last bits of a key of %d bytes", n)
		}
	}
}

func TestBehind(t *testing.T) {
	for _, x := range []struct {
		p, want string
		ok      bool
	}{
		{"", "", false},
		{"\xff", "", false},
		{"\xff\xff\xff", "", false},
		{"a", "b", true},
		{"a\xff", "b", true},
		{"a\xff\xff", "b", true},
		{"\xfe", "\xff", true},
		{"\xfe\xff", "\xff", true},
		{"\x00", "\x01", true},
		{"\x00\xff", "\x01", true},
		{"\xff\x00", "\xff\x01", true},
		{"\xff\x00\xff", "\xff\x01", true},
		{"a\xff\xfe", "a\xff\xff", true},
		{"abc", "abd", true},
	} {
		got, ok := Behind([]byte(x.p))
		if string(got) != x.want || ok != x.ok {
			t.Errorf("P1.2: Behind(%q): %q, %v", x.p, got, ok)
		}
	}
	if got, ok := Behind(nil); got != nil || ok {
		t.Errorf("P1.2: Behind(nil): %q, %v", got, ok)
	}
	if got, _ := Behind([]byte{0xff}); got != nil {
		t.Errorf("R2: beside a false: %q", got)
	}
}

func TestBehindAmongOthers(t *testing.T) {
	all := sample()
	for _, p := range all {
		behind, ok := Behind(p)
		for _, k := range all {
			ahead := bytes.Compare(k, p) < 0 || bytes.HasPrefix(k, p)
			if ok && (bytes.Compare(k, behind) < 0) != ahead {
				t.Errorf("P1.2: Behind(%q) is %q: wrong side of %q", p, behind, k)
			}
			if !ok && !ahead {
				t.Errorf("P1.2: Behind(%q): %q stands behind all", p, k)
			}
		}
	}
}

func TestLeast(t *testing.T) {
	all := sample()
	for _, k := range all {
		least := Least(k)
		if string(least) != string(k)+"\x00" {
			t.Errorf("P1.2: Least(%q): %q", k, least)
		}
		for _, other := range all {
			if (bytes.Compare(other, least) < 0) != (bytes.Compare(other, k) <= 0) {
				t.Errorf("P1.2: Least(%q): wrong side of %q", k, other)
			}
		}
	}
	if got := Least(nil); len(got) != 1 || got[0] != 0 {
		t.Errorf("P1.2: Least(nil): %q", got)
	}
}

func TestBehindAndLeastOfLongKeys(t *testing.T) {
	for _, n := range []int{api.MaxKey, api.MaxKey + 1} {
		k := bytes.Repeat([]byte{0xff}, n)
		if got, ok := Behind(k); got != nil || ok {
			t.Errorf("P1.2: Behind of %d bytes 0xff: %d bytes, %v", n, len(got), ok)
		}
		k[0] = 'a'
		if got, ok := Behind(k); string(got) != "b" || !ok {
			t.Errorf("P1.2: Behind of a and %d bytes 0xff: %d bytes, %v", n-1, len(got), ok)
		}
		k[n-1] = 'a'
		got, ok := Behind(k)
		if !ok || len(got) != n || !bytes.Equal(got[:n-1], k[:n-1]) || got[n-1] != 'b' {
			t.Errorf("P1.2: Behind of %d bytes", n)
		}
		least := Least(k)
		if len(least) != n+1 || !bytes.Equal(least[:n], k) || least[n] != 0 {
			t.Errorf("P1.2: Least of %d bytes", n)
		}
	}
}

// callAll makes each call, and writes over what is answered, its spare room too.
func callAll(a []byte, b []byte) {
	May(a)
	Compare(a, b)
	Common(a, b)
	Differ(a, b)
	Begins(a, b)
	for i := -1; i <= 9*len(a)+9; i++ {
		Bit(a, i)
	}
	behind, _ := Behind(a)
	for _, answer := range [][]byte{behind, Least(a)} {
		answer = answer[:cap(answer)]
		for i := range answer {
			answer[i] = '!'
		}
	}
}

func TestNothingHandedInIsChanged(t *testing.T) {
	for _, text := range []string{"", "a", "ab", "a\xff", "a\xff\xff", "\xff", "\xff\xff", "a\x00"} {
		// The key is a piece of a longer array: bytes ahead of it, and spare room behind.
		whole := []byte("<" + text + "spare room")
		before := string(whole)
		k := whole[1 : 1+len(text)]
		callAll(k, []byte("ab"))
		callAll([]byte("ab"), k)
		callAll(k, k)
		if string(whole) != before {
			t.Errorf("R4: %q became %q", before, whole)
		}
	}
}

func TestAnswersShareNoMemory(t *testing.T) {
	for _, text := range []string{"a", "a\xff", "abc"} {
		k := []byte(text)
		one, _ := Behind(k)
		two, _ := Behind(k)
		want := string(two)
		least, again := Least(k), Least(k)
		one[0], least[0] = '!', '!'
		if string(two) != want || string(again) != text+"\x00" || string(k) != text {
			t.Errorf("R4: answers of %q share memory", text)
		}
		k[0] = '?'
		if string(two) != want || string(again) != text+"\x00" {
			t.Errorf("R4: answers share memory with the key %q", text)
		}
	}
}

func TestFromSeveralGoroutines(t *testing.T) {
	a, b := []byte("abc\xff"), []byte("abd")
	var all sync.WaitGroup
	for range 8 {
		all.Go(func() {
			for range 200 {
				behind, ok := Behind(a)
				if Compare(a, b) != -1 || Differ(a, b) != 24 || !ok || string(behind) != "abd" || string(Least(b)) != "abd\x00" {
					t.Error("R5: another answer beside other calls")
				}
			}
		})
	}
	all.Wait()
}
