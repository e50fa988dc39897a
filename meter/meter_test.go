package meter

import (
	"math"
	"runtime"
	"slices"
	"sync"
	"sync/atomic"
	"testing"

	"bramble/api"
)

// edges are numbers at the ends of what an int64 holds, and around 0.
var edges = []int64{0, 1, -1, 2, -2, 77, -77, math.MaxInt64, math.MaxInt64 - 1, math.MinInt64, math.MinInt64 + 1}

// strangers are numbers of which there is no counter.
var strangers = []int{-1, -2, api.Counters, api.Counters + 1, 99, math.MaxInt, math.MinInt, 1 << 32, -1 << 32}

// set brings counter i to n, by a call that no test of another call leans on.
func set(m *Meter, i int, n int64) { m.counters[i].Store(n) }

// filled makes a meter with a number of its own in each counter.
func filled() *Meter {
	m := New()
	for i := range api.Counters {
		set(m, i, int64(100+i))
	}
	return m
}

// filledBut lists what filled holds, but n in counter i.
func filledBut(i int, n int64) []int64 {
	want := make([]int64, api.Counters)
	for k := range want {
		want[k] = int64(100 + k)
	}
	want[i] = n
	return want
}

func TestNew(t *testing.T) {
	m := New()
	if m == nil {
		t.Fatal("P3.1: New: nil")
	}
	if all := m.All(); !slices.Equal(all, make([]int64, api.Counters)) {
		t.Errorf("P3.1: New: %v", all)
	}
	other := New()
	m.Add(0, 1)
	if other.Get(0) != 0 || New().Get(0) != 0 {
		t.Error("P3.1: two meters share a counter")
	}
}

func TestExample(t *testing.T) {
	m := New()
	if n := m.Add(3, 2); n != 2 {
		t.Errorf("P3.1: Add(3, 2): %d", n)
	}
	if n := m.Most(3, 1); n != 2 {
		t.Errorf("P3.1: Most(3, 1): %d", n)
	}
}

func TestAdd(t *testing.T) {
	for i := range api.Counters {
		for _, was := range edges {
			for _, n := range edges {
				m := filled()
				set(m, i, was)
				want := int64(uint64(was) + uint64(n))
				if got := m.Add(i, n); got != want {
					t.Errorf("P3.1: Add(%d, %d) at %d: %d, not %d", i, n, was, got, want)
				}
				if all := m.All(); !slices.Equal(all, filledBut(i, want)) {
					t.Errorf("P3.1: behind Add(%d, %d) at %d: %v", i, n, was, all)
				}
			}
		}
	}
}

func TestAddGoesRound(t *testing.T) {
	m := New()
	m.Add(0, math.MaxInt64)
	if n := m.Add(0, 1); n != math.MinInt64 {
		t.Errorf("P3.1: Add 1 to the greatest: %d", n)
	}
	if n := m.Add(0, -1); n != math.MaxInt64 {
		t.Errorf("P3.1: Add -1 to the least: %d", n)
	}
	m.Reset()
	for range 4 {
		m.Add(0, 1<<62)
	}
	if n := m.Get(0); n != 0 {
		t.Errorf("P3.1: four times 2^62: %d", n)
	}
}

func TestGet(t *testing.T) {
	for i := range api.Counters {
		for _, was := range edges {
			m := filled()
			set(m, i, was)
			if got := m.Get(i); got != was {
				t.Errorf("P3.1: Get(%d): %d, not %d", i, got, was)
			}
			if all := m.All(); !slices.Equal(all, filledBut(i, was)) {
				t.Errorf("P3.1: behind Get(%d): %v", i, all)
			}
		}
	}
}

func TestMost(t *testing.T) {
	for i := range api.Counters {
		for _, was := range edges {
			for _, n := range edges {
				m := filled()
				set(m, i, was)
				want := max(was, n)
				if got := m.Most(i, n); got != want {
					t.Errorf("P3.1: Most(%d, %d) at %d: %d, not %d", i, n, was, got, want)
				}
				if all := m.All(); !slices.Equal(all, filledBut(i, want)) {
					t.Errorf("P3.1: behind Most(%d, %d) at %d: %v", i, n, was, all)
				}
			}
		}
	}
}

func TestSwap(t *testing.T) {
	for i := range api.Counters {
		for _, was := range edges {
			for _, old := range edges {
				for _, now := range edges {
					m := filled()
					set(m, i, was)
					want := was
					if was == old {
						want = now
					}
					if got := m.Swap(i, old, now); got != (was == old) {
						t.Errorf("P3.1: Swap(%d, %d, %d) at %d: %v", i, old, now, was, got)
					}
					if all := m.All(); !slices.Equal(all, filledBut(i, want)) {
						t.Errorf("P3.1: behind Swap(%d, %d, %d) at %d: %v", i, old, now, was, all)
					}
				}
			}
		}
	}
}

func TestReset(t *testing.T) {
	m := filled()
	m.Reset()
	if all := m.All(); !slices.Equal(all, make([]int64, api.Counters)) {
		t.Errorf("P3.1: behind Reset: %v", all)
	}
	if n := m.Add(api.Counters-1, 4); n != 4 {
		t.Errorf("P3.1: Add behind Reset: %d", n)
	}
	m.Reset()
	m.Reset()
	if n := m.Get(api.Counters - 1); n != 0 {
		t.Errorf("P3.1: Get behind Reset: %d", n)
	}
}

func TestNoSuchCounter(t *testing.T) {
	for _, i := range strangers {
		m := filled()
		for _, n := range edges {
			if got := m.Add(i, n); got != 0 {
				t.Errorf("P3.1: Add(%d, %d): %d", i, n, got)
			}
			if got := m.Most(i, n); got != 0 {
				t.Errorf("P3.1: Most(%d, %d): %d", i, n, got)
			}
			if m.Swap(i, 0, n) || m.Swap(i, n, n) {
				t.Errorf("P3.1: Swap(%d) of %d: true", i, n)
			}
		}
		if got := m.Get(i); got != 0 {
			t.Errorf("P3.1: Get(%d): %d", i, got)
		}
		if all := m.All(); !slices.Equal(all, filledBut(0, 100)) {
			t.Errorf("P3.1: behind calls at %d: %v", i, all)
		}
	}
}

func TestNil(t *testing.T) {
	var m *Meter
	for _, i := range append([]int{0, 1, api.Counters - 1}, strangers...) {
		for _, n := range edges {
			if got := m.Add(i, n); got != 0 {
				t.Errorf("R3: Add(%d, %d): %d", i, n, got)
			}
			if got := m.Most(i, n); got != 0 {
				t.Errorf("R3: Most(%d, %d): %d", i, n, got)
			}
			if m.Swap(i, 0, n) {
				t.Errorf("R3: Swap(%d, 0, %d): true", i, n)
			}
		}
		if got := m.Get(i); got != 0 {
			t.Errorf("R3: Get(%d): %d", i, got)
		}
	}
	m.Reset()
	if all := m.All(); len(all) != 0 {
		t.Errorf("R3: All: %v", all)
	}
}

func TestAllIsMemoryOfItsOwn(t *testing.T) {
	m := filled()
	first, second := m.All(), m.All()
	for i := range first {
		first[i] = -5
	}
	if !slices.Equal(second, filledBut(0, 100)) {
		t.Errorf("R4: two answers of All share memory: %v", second)
	}
	if all := m.All(); !slices.Equal(all, filledBut(0, 100)) {
		t.Errorf("R4: what All answers shares memory with the meter: %v", all)
	}
	m.Add(0, 1)
	m.Reset()
	if !slices.Equal(second, filledBut(0, 100)) {
		t.Errorf("R4: an answer of All changes with the meter: %v", second)
	}
}

// together runs many functions that all begin at one time, and waits for all.
func together(many int, run func(i int)) {
	begin := make(chan struct{})
	var wait sync.WaitGroup
	for i := range many {
		wait.Go(func() {
			<-begin
			run(i)
		})
	}
	close(begin)
	wait.Wait()
}

// TestAddAtOnce asks that every number between is told to just one of those that add 1.
func TestAddAtOnce(t *testing.T) {
	const many, times = 16, 2000
	m := New()
	var told [many][]int64
	together(many, func(i int) {
		for range times {
			told[i] = append(told[i], m.Add(5, 1))
			m.Add(6, int64(i))
			m.Add(7, -1)
		}
	})
	var all []int64
	for _, list := range told {
		all = append(all, list...)
	}
	slices.Sort(all)
	for i, n := range all {
		if n != int64(i)+1 {
			t.Fatalf("P3.1: Add at once: the %d-th number told is %d", i, n)
		}
	}
	if m.Get(5) != many*times || m.Get(6) != times*many*(many-1)/2 || m.Get(7) != -many*times {
		t.Errorf("P3.1: Add at once: %v", m.All())
	}
}

// TestMostAtOnce lets the most be raised from all sides: it never falls, and no raise is lost.
func TestMostAtOnce(t *testing.T) {
	const many, times = 8, 20000
	m := New()
	together(many, func(i int) {
		for k := range times {
			n := int64(k*many + i + 1)
			got := m.Most(5, n)
			if now := m.Get(5); got < n || now < got {
				t.Errorf("P3.1: Most(5, %d) at once: %d, and behind it %d", n, got, now)
				return
			}
		}
	})
	if n := m.Get(5); n != many*times {
		t.Errorf("P3.1: Most at once: %d", n)
	}
}

// TestMostAndAddAtOnce asks that no 1 is lost to a Most that had looked ahead of it:
// Most of what is surely there already may change nothing.
func TestMostAndAddAtOnce(t *testing.T) {
	const many, times = 8, 4000
	m := New()
	together(many, func(int) {
		for range times {
			n := m.Add(5, 1)
			m.Most(5, n)
		}
	})
	if n := m.Get(5); n != many*times {
		t.Errorf("P3.1: Most beside Add: %d, not %d", n, many*times)
	}
}

// TestSwapAtOnce asks that each number is swapped away by one alone.
func TestSwapAtOnce(t *testing.T) {
	const many, times = 8, 50000
	m := New()
	var won [many]int
	together(many, func(i int) {
		for k := m.Get(5); k < times; k = m.Get(5) {
			if m.Swap(5, k, k+1) {
				won[i]++
			}
		}
	})
	all := 0
	for _, n := range won {
		all += n
	}
	if all != times || m.Get(5) != times {
		t.Errorf("P3.1: Swap at once: %d of %d swaps, %d", all, times, m.Get(5))
	}
}

// await looks until what it is to wait for is there; it leaves the processor to others now and then.
func await(there func() bool) {
	for i := 1; !there(); i++ {
		if i%200 == 0 {
			runtime.Gosched()
		}
	}
}

// TestResetAtOnce waits, by each of the calls, for one counter to be 0: then Reset is done,
// all others are 0 too, and what comes behind that stays.
func TestResetAtOnce(t *testing.T) {
	const rounds = 6000
	m := New()
	looks := []func(i int) bool{
		func(i int) bool { return m.Get(i) == 0 },
		func(i int) bool { return m.Add(i, 0) == 0 },
		func(i int) bool { return m.Most(i, math.MinInt64) == 0 },
		func(i int) bool { return m.Swap(i, 0, 0) },
		func(i int) bool { return m.All()[i] == 0 },
	}
	var begun, reset atomic.Int64
	together(2, func(who int) {
		for round := int64(1); round <= rounds; round++ {
			if who == 0 {
				await(func() bool { return begun.Load() == round })
				m.Reset()
				reset.Store(round)
				continue
			}
			for i := range api.Counters {
				set(m, i, 1)
			}
			seen := int(round % api.Counters)
			look := looks[round%int64(len(looks))]
			begun.Store(round)
			await(func() bool { return look(seen) })
			var others [api.Counters]bool
			for i := range others {
				others[i] = look((seen + i) % api.Counters)
			}
			var told [api.Counters]int64
			for i := range told {
				told[i] = m.Add(i, 5)
			}
			await(func() bool { return reset.Load() == round })
			if slices.Contains(others[:], false) {
				t.Errorf("P3.1: Reset: counter %d is 0; behind that, whether those from there on are: %v", seen, others)
			}
			fives := slices.Repeat([]int64{5}, api.Counters)
			if left := m.All(); !slices.Equal(told[:], fives) || !slices.Equal(left, fives) {
				t.Errorf("P3.1: Reset: all are 0; behind that 5 more are %v, and then %v", told, left)
			}
		}
	})
}

// TestAllAtOnce lets counters rise one behind another, the last one first: none that is
// told later may be less than the one ahead of it was when it was told.
func TestAllAtOnce(t *testing.T) {
	const times = 20000
	m := New()
	together(4, func(i int) {
		if i == 0 {
			for range times {
				for k := range api.Counters {
					m.Add(api.Counters-1-k, 1)
				}
			}
			return
		}
		for range times / 10 {
			if all := m.All(); !slices.IsSorted(all) {
				t.Errorf("P3.1: All at once: %v", all)
				return
			}
		}
	})
	if all := m.All(); !slices.Equal(all, slices.Repeat([]int64{times}, api.Counters)) {
		t.Errorf("P3.1: All behind Add at once: %v", all)
	}
}
