package trees

import (
	"bytes"
	"runtime"
	"slices"
	"strings"
	"sync"
	"testing"

	"bramble/api"
	"bramble/model"
)

// roomy is a list of its own of these bytes, with room behind it that is filled.
func roomy(k string) []byte { return append([]byte(k), 7, 8, 9)[:len(k)] }

// spoil writes over all bytes of k, also of the room behind it.
func spoil(k []byte) {
	for i := range k[:cap(k)] {
		k[:cap(k)][i] = '!'
	}
}

// kept looks whether a call has left k, and the room behind it, as it was, and
// writes over both.
func (x kind) kept(t *testing.T, what string, k []byte, was string) {
	t.Helper()
	if string(k[:cap(k)]) != was+"\x07\x08\x09"+string(make([]byte, max(0, cap(k)-len(was)-3))) {
		x.fault(t, 1, "R4: %s changed what it was given: %q", what, k[:cap(k)])
	}
	spoil(k)
}

// What is handed in is not changed, and not kept.
func TestHandedIn(t *testing.T) {
	each(t, func(t *testing.T, x kind) {
		w := x.twin(t, plenty)
		for round := range 2 {
			for i, s := range someKeys() {
				k := roomy(s)
				w.tree.Put(k, uint64(i+round))
				w.plain.Put([]byte(s), uint64(i+round))
				x.kept(t, "Put", k, s)
				w.right(t)
			}
		}
		for what, ask := range map[string]func(k []byte){
			"Get":     func(k []byte) { w.tree.Get(k) },
			"Floor":   func(k []byte) { w.tree.Floor(k) },
			"Ceil":    func(k []byte) { w.tree.Ceil(k) },
			"Longest": func(k []byte) { w.tree.Longest(k) },
			"Rank":    func(k []byte) { w.tree.Rank(k) },
			"From":    func(k []byte) { w.tree.From(k, 9) },
		} {
			for _, s := range askedKeys() {
				k := roomy(s)
				ask(k)
				x.kept(t, what, k, s)
			}
			w.right(t)
		}
		for _, s := range []string{"ab", "abb", "", "zz"} {
			k := roomy(s)
			w.tree.Drop(k)
			w.plain.Drop([]byte(s))
			x.kept(t, "Drop", k, s)
			w.right(t)
		}
		w.builtOf(t, someKeys())
		w.builtOf(t, []string{"b", "a"})
	})
}

// What is told stays as it is when the key that was asked of is written over.
func TestToldStays(t *testing.T) {
	each(t, func(t *testing.T, x kind) {
		w := x.twin(t, plenty, keyed(someKeys()...)...)
		for _, s := range askedKeys() {
			for what, ask := range map[string]func(k []byte) []api.Pair{
				"Floor":   func(k []byte) []api.Pair { p, _ := w.tree.Floor(k); return []api.Pair{p} },
				"Ceil":    func(k []byte) []api.Pair { p, _ := w.tree.Ceil(k); return []api.Pair{p} },
				"Longest": func(k []byte) []api.Pair { p, _ := w.tree.Longest(k); return []api.Pair{p} },
				"From":    func(k []byte) []api.Pair { return w.tree.From(k, 3) },
			} {
				k := roomy(s)
				ps := ask(k)
				was := told(ps...)
				spoil(k)
				if now := told(ps...); now != was {
					x.fault(t, 1, "R4: %s(%q): it was %s, and is %s when the argument is written over", what, s, was, now)
				}
			}
		}
	})
}

// builtOf builds of these keys, and looks whether the list was left as it was,
// and may be written over.
func (w *twin) builtOf(t *testing.T, ks []string) {
	t.Helper()
	ps := append(keyed(ks...), pair("behind", 77))
	for i, k := range ks {
		ps[i].Key = roomy(k)
	}
	handed := ps[:len(ks)]
	if w.tree.Build(handed...) == api.OK {
		w.plain = model.New(keyed(ks...)...)
	}
	for i, p := range handed {
		w.kept(t, "Build", p.Key, ks[i])
		if p.Val != uint64(i+1) {
			w.fault(t, 1, "R4: Build changed a value that it was given: %d", p.Val)
		}
	}
	if string(ps[len(ks)].Key) != "behind" || ps[len(ks)].Val != 77 {
		w.fault(t, 1, "R4: Build wrote behind what it was given")
	}
	clear(ps)
	w.right(t)
}

// What is told may be written over, in its length and behind it.
func TestTold(t *testing.T) {
	each(t, func(t *testing.T, x kind) {
		w := x.twin(t, plenty, keyed(someKeys()...)...)
		for i, k := range askedKeys() {
			for _, ask := range []func([]byte) (api.Pair, bool){w.tree.Floor, w.tree.Ceil, w.tree.Longest} {
				p, _ := ask([]byte(k))
				spoil(p.Key)
			}
			p, _ := w.tree.Select(i)
			spoil(p.Key)
			w.right(t)
		}
		for _, ps := range [][]api.Pair{w.tree.From(nil, plenty), w.tree.From([]byte("a"), 3)} {
			others := w.tree.From(nil, plenty)
			text := told(others...)
			for i := range ps {
				spoil(ps[i].Key)
			}
			clear(ps[:cap(ps)])
			if told(others...) != text {
				x.fault(t, 1, "R4: From: two answers share memory")
			}
			w.right(t)
		}
		cs, others := w.tree.Shape(), w.tree.Shape()
		text := cellsText(others)
		for i := range cs {
			spoil(cs[i].Key)
			for _, p := range cs[i].Pairs {
				spoil(p.Key)
			}
			clear(cs[i].Pairs)
		}
		clear(cs[:cap(cs)])
		if cellsText(others) != text {
			x.fault(t, 2, "R4: Shape: two answers share memory")
		}
		w.whole(t, askedKeys()...)
	})
}

// No two keys of one answer share memory.
func TestToldApart(t *testing.T) {
	each(t, func(t *testing.T, x kind) {
		w := x.twin(t, plenty, keyed(someKeys()...)...)
		ps := w.tree.From(nil, plenty)
		for i := range ps {
			spoil(ps[i].Key)
			if rest := w.plain.From(nil, plenty)[i+1:]; !alike(ps[i+1:], rest) {
				x.fault(t, 1, "R4: From: two keys share memory: %s", told(ps[i+1:]...))
			}
		}
		cs := w.tree.Shape()
		for i := range cs {
			spoil(cs[i].Key)
			for j := range cs[i].Pairs {
				spoil(cs[i].Pairs[j].Key)
			}
			for j, c := range w.tree.Shape()[i+1:] {
				if !bytes.Equal(cs[i+1+j].Key, c.Key) || !alike(cs[i+1+j].Pairs, c.Pairs) {
					x.fault(t, 2, "R4: Shape: two cells share memory")
				}
			}
		}
	})
}

// Of what was dropped nothing is kept.
func TestForgets(t *testing.T) {
	const rounds = 100
	each(t, func(t *testing.T, x kind) {
		w := x.twin(t, api.MaxCells, keyed("a", "b")...)
		k := strings.Repeat("w", api.MaxKey-1)
		comeAndGo := func(i int) {
			w.put(t, k+string([]byte{byte(i)}), 1)
			w.drop(t, k+string([]byte{byte(i)}))
		}
		comeAndGo(0)
		before := memory()
		for i := range rounds {
			comeAndGo(i)
		}
		if more := memory() - before; more > rounds*api.MaxKey/2 {
			x.fault(t, 1, "%d bytes more are kept, of the same keys", more)
		}
		w.right(t)
	})
}

// memory tells how many bytes are kept in all.
func memory() int {
	runtime.GC()
	var now runtime.MemStats
	runtime.ReadMemStats(&now)
	return int(now.HeapAlloc)
}

// Calls that change nothing may be called from several goroutines at once.
func TestTogether(t *testing.T) {
	each(t, func(t *testing.T, x kind) {
		w := x.twin(t, plenty, keyed(someKeys()...)...)
		text := w.text()
		ks := askedKeys()
		var all sync.WaitGroup
		faults := make(chan string, 8)
		for g := range 8 {
			all.Go(func() {
				for i := range 200 {
					k := []byte(ks[(i*7+g)%len(ks)])
					v, ok := w.tree.Get(k)
					want, is := w.plain.Get(k)
					p, _ := w.tree.Floor(k)
					q, _ := w.plain.Floor(k)
					if v != want || ok != is || w.tree.Rank(k) != w.plain.Rank(k) || !alike(w.tree.From(k, 3), w.plain.From(k, 3)) || !slices.Equal(p.Key, q.Key) || i%50 == 0 && w.text() != text {
						faults <- string(k)
						return
					}
				}
			})
		}
		all.Wait()
		close(faults)
		for k := range faults {
			x.fault(t, 1, "R5: of %q: asked together, it is told otherwise", k)
		}
	})
}
