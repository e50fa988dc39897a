// Package key: bytes in order. Its chapter: shared/doc/01-key.md.
package key

import "bramble/api"

// byteBits: a 1 ahead of each byte's eight bits tells a byte 0 from the zeros
// behind a key's end, so that keys that are not the same differ in a bit.
const byteBits = 9

// May tells whether k is short enough to be a key.
func May(k []byte) bool { return len(k) <= api.MaxKey }

// Compare tells whether a stands ahead of b (-1), is the same (0), or stands behind it (1).
func Compare(a []byte, b []byte) int {
	n := Common(a, b)
	switch {
	case n == len(a) && n == len(b):
		return 0
	case n == len(a):
		return -1
	case n == len(b):
		return 1
	case a[n] < b[n]:
		return -1
	}
	return 1
}

// Common tells how many bytes both begin with.
func Common(a []byte, b []byte) int {
	n := 0
	for n < len(a) && n < len(b) && a[n] == b[n] {
		n++
	}
	return n
}

// Bit tells the i-th bit of k, from 0; there are zeros ahead of the first one and behind the last byte.
func Bit(k []byte, i int) int {
	if i < 0 || i/byteBits >= len(k) {
		return 0
	}
	at := i % byteBits
	if at == 0 {
		return 1
	}
	return int(k[i/byteBits]>>(byteBits-1-at)) & 1
}

// Differ tells the first bit in which a and b differ; -1, if they are the same.
func Differ(a []byte, b []byte) int {
	// All bits of the bytes that both begin with are alike, and the byte behind
	// these differs, or is there in one of them alone: no other need be looked at.
	first := Common(a, b) * byteBits
	for i := first; i < first+byteBits; i++ {
		if Bit(a, i) != Bit(b, i) {
			return i
		}
	}
	return -1
}

// Begins tells whether p is a beginning of k.
func Begins(k []byte, p []byte) bool { return Common(k, p) == len(p) }

// Behind tells the least key that stands behind all that begin with p, and whether there is one.
func Behind(p []byte) ([]byte, bool) {
	// No byte stands above 0xff: what is behind all that begin with p is also
	// behind all that begin with p without such bytes at its end.
	n := len(p)
	for n > 0 && p[n-1] == 0xff {
		n--
	}
	if n == 0 {
		return nil, false
	}
	behind := copied(p, n)
	behind[n-1]++
	return behind, true
}

// Least tells the least key that stands behind k.
func Least(k []byte) []byte { return copied(k, len(k)+1) }

// copied makes n bytes of its own: those of k, as many as fit, and zeros behind them.
func copied(k []byte, n int) []byte {
	c := make([]byte, n)
	copy(c, k)
	return c
}
