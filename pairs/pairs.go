// Package pairs: what the layers share that keep pairs of keys and values.
package pairs

import (
	"bramble/api"
	"bramble/key"
)

// ByKey compares two pairs by their keys.
func ByKey(a api.Pair, b api.Pair) int { return key.Compare(a.Key, b.Key) }

// Own makes a pair like p with a key of its own.
func Own(p api.Pair) api.Pair {
	// To the byte as long as it is: no room is left to write behind its end.
	own := make([]byte, len(p.Key))
	copy(own, p.Key)
	return api.Pair{Key: own, Val: p.Val}
}

// OwnAll makes a list of its own of these pairs, each with a key of its own.
func OwnAll(ps []api.Pair) []api.Pair {
	own := make([]api.Pair, len(ps))
	for i, p := range ps {
		own[i] = Own(p)
	}
	return own
}
