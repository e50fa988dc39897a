// Package pairs: what the layers share that keep pairs of keys and values.
package pairs

import (
	"iter"
	"slices"

	"bramble/api"
	"bramble/key"
)

// ByKey compares two pairs by their keys.
func ByKey(a api.Pair, b api.Pair) int { return key.Compare(a.Key, b.Key) }

// TooLong tells whether the key of p may not be.
func TooLong(p api.Pair) bool { return !key.May(p.Key) }

// Rise tells whether the key of each stands behind that of the one before it.
func Rise(ps []api.Pair) bool {
	for i := 1; i < len(ps); i++ {
		if ByKey(ps[i-1], ps[i]) >= 0 {
			return false
		}
	}
	return true
}

// Check tells whether these are a map's, as they are: ErrLong, if a key may
// not be; ErrOrder, if they do not rise.
func Check(ps []api.Pair) api.Errno {
	switch {
	case slices.ContainsFunc(ps, TooLong):
		return api.ErrLong
	case !Rise(ps):
		return api.ErrOrder
	}
	return api.OK
}

// Shared tells how many bytes a and b begin with in common.
func Shared(a []byte, b []byte) int {
	n := 0
	for n < min(len(a), len(b)) && a[n] == b[n] {
		n++
	}
	return n
}

// Own makes a pair like p with a key of its own.
func Own(p api.Pair) api.Pair {
	// To the byte as long as it is: no room is left to write behind its end.
	own := make([]byte, len(p.Key))
	copy(own, p.Key)
	return api.Pair{Key: own, Val: p.Val}
}

// OwnAll makes a list of its own of these pairs, each with a key of its own.
func OwnAll(ps []api.Pair) []api.Pair {
	own := make([]api.Pair, len(ps))
	for i, p := range ps {
		own[i] = Own(p)
	}
	return own
}

// First tells the first of these pairs, if there is one.
func First(ps iter.Seq[api.Pair]) (api.Pair, bool) {
	for p := range ps {
		return p, true
	}
	return api.Pair{}, false
}

// Firsts lists the first of these pairs, at most so many.
func Firsts(ps iter.Seq[api.Pair], most int) []api.Pair {
	var first []api.Pair
	if most <= 0 {
		return nil
	}
	for p := range ps {
		first = append(first, p)
		if len(first) == most {
			break
		}
	}
	return first
}
