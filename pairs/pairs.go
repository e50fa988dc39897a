// Package pairs: what the layers share that keep pairs of keys and values.
package pairs

import (
	"slices"

	"bramble/api"
	"bramble/key"
)

// ByKey compares two pairs by their keys.
func ByKey(a api.Pair, b api.Pair) int { return key.Compare(a.Key, b.Key) }

// TooLong tells whether the key of p may not be.
func TooLong(p api.Pair) bool { return !key.May(p.Key) }

// Rise tells whether the key of each stands behind that of the one before it.
func Rise(ps []api.Pair) bool {
	for i := 1; i < len(ps); i++ {
		if ByKey(ps[i-1], ps[i]) >= 0 {
			return false
		}
	}
	return true
}

// Check tells whether these are a map's, as they are: ErrLong, if a key may
// not be; ErrOrder, if they do not rise.
func Check(ps []api.Pair) api.Errno {
	switch {
	case slices.ContainsFunc(ps, TooLong):
		return api.ErrLong
	case !Rise(ps):
		return api.ErrOrder
	}
	return api.OK
}

// Own makes a pair like p with a key of its own.
func Own(p api.Pair) api.Pair {
	// To the byte as long as it is: no room is left to write behind its end.
	own := make([]byte, len(p.Key))
	copy(own, p.Key)
	return api.Pair{Key: own, Val: p.Val}
}

// OwnAll makes a list of its own of these pairs, each with a key of its own.
func OwnAll(ps []api.Pair) []api.Pair {
	own := make([]api.Pair, len(ps))
	for i, p := range ps {
		own[i] = Own(p)
	}
	return own
}
