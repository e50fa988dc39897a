package need

import (
	"math"
	"slices"
	"sync"
	"testing"

	"bramble/api"
)

// tags are the four kinds of trees.
var tags = []int{api.Crit, api.Ternary, api.Radix, api.Burst}

// noTags are numbers that are no kind of a tree.
var noTags = []int{0, 5, 6, -1, -2, -3, -4, 255, 256 + api.Crit, 1<<16 + api.Ternary, math.MaxInt32, math.MinInt32, 1<<32 + api.Radix, -1<<32 + api.Burst, math.MaxInt - 1, math.MaxInt, math.MinInt, math.MinInt + 1}

// noLongs are numbers of bytes that no key has.
var noLongs = []int{-1, -2, -api.MaxKey, api.MaxKey + 1, api.MaxKey + 2, 1 << 17, -1 << 17, math.MaxInt32, math.MinInt32, 1 << 32, -1 << 32, 1<<32 + 3, 1 << 60, -1 << 60, math.MaxInt/2 + 1, math.MinInt / 2, math.MaxInt - 12, math.MaxInt - 1, math.MaxInt, math.MinInt + 1, math.MinInt}

// puts looks at what Put tells.
func puts(t *testing.T, tag int, long int, want int) {
	t.Helper()
	if got := Put(tag, long); got != want {
		t.Errorf("P10.1: Put(%d, %d): %d, not %d", tag, long, got, want)
	}
}

// builds looks at what Build tells, and whether it leaves the lengths, and
// what stands in the room behind them, as they were.
func builds(t *testing.T, tag int, want int, longs ...int) {
	t.Helper()
	room := append(slices.Clone(longs), 7, -7, math.MaxInt)
	was := slices.Clone(room)
	if got := Build(tag, room[:len(longs)]...); got != want {
		t.Errorf("P10.1: Build of %d, %d lengths: %d, not %d", tag, len(longs), got, want)
	}
	if !slices.Equal(room, was) {
		t.Errorf("R4: Build of %d changed its lengths, or the room behind them", tag)
	}
}

func TestExample(t *testing.T) {
	puts(t, api.Ternary, 3, 4)
}

func TestPut(t *testing.T) {
	for _, x := range []struct{ tag, long, want int }{
		{api.Crit, 0, 2}, {api.Crit, 1, 2}, {api.Crit, 65534, 2}, {api.Crit, 65535, 2},
		{api.Ternary, 0, 1}, {api.Ternary, 1, 2}, {api.Ternary, 65534, 65535}, {api.Ternary, 65535, 65536},
		{api.Radix, 0, 3}, {api.Radix, 1, 3}, {api.Radix, 65534, 3}, {api.Radix, 65535, 3},
		{api.Burst, 0, 12}, {api.Burst, 1, 14}, {api.Burst, 65534, 131080}, {api.Burst, 65535, 131082},
	} {
		puts(t, x.tag, x.long, x.want)
	}
}

func TestPutOfEachLength(t *testing.T) {
	crit, ternary, radix, burst := 2, 1, 3, 12
	for long := range api.MaxKey + 1 {
		puts(t, api.Crit, long, crit)
		puts(t, api.Ternary, long, ternary)
		puts(t, api.Radix, long, radix)
		puts(t, api.Burst, long, burst)
		ternary++
		burst += 2
	}
}

func TestPutOfNoKind(t *testing.T) {
	for _, tag := range noTags {
		for _, long := range []int{0, 1, 3, api.MaxKey - 1, api.MaxKey} {
			puts(t, tag, long, 0)
		}
	}
}

func TestPutOfNoLength(t *testing.T) {
	for _, tag := range slices.Concat(tags, noTags) {
		for _, long := range noLongs {
			puts(t, tag, long, 0)
		}
	}
}

func TestBuildOfNothing(t *testing.T) {
	for _, tag := range slices.Concat(tags, noTags) {
		if got := Build(tag); got != 0 {
			t.Errorf("P10.1: Build(%d): %d", tag, got)
		}
		builds(t, tag, 0, []int{}...)
	}
}

func TestBuildOfOne(t *testing.T) {
	longs := append([]int{0, 1, 2, 3, 100, api.MaxKey - 1, api.MaxKey}, noLongs...)
	for _, tag := range slices.Concat(tags, noTags) {
		for _, long := range longs {
			builds(t, tag, Put(tag, long), long)
		}
	}
}

func TestBuild(t *testing.T) {
	for _, x := range []struct {
		tag   int
		want  int
		longs []int
	}{
		{api.Crit, 6, []int{1, 2, 3}}, {api.Crit, 4, []int{65535, 0}},
		{api.Ternary, 13, []int{0, 5, 5}}, {api.Ternary, 65537, []int{65535, 0}},
		{api.Radix, 6, []int{9, 9}}, {api.Radix, 12, []int{0, 65535, 1, 1}},
		{api.Burst, 42, []int{1, 2, 0}}, {api.Burst, 131094, []int{65535, 0}},
	} {
		builds(t, x.tag, x.want, x.longs...)
	}
}

func TestBuildWithLengthsThatNoKeyHas(t *testing.T) {
	longs := slices.Concat(noLongs, []int{4}, noLongs, []int{0, api.MaxKey}, noLongs)
	builds(t, api.Crit, 6, longs...)
	builds(t, api.Ternary, 5+1+65536, longs...)
	builds(t, api.Radix, 9, longs...)
	builds(t, api.Burst, 20+12+131082, longs...)
	for _, tag := range tags {
		builds(t, tag, 0, noLongs...)
	}
}

func TestBuildOfNoKind(t *testing.T) {
	for _, tag := range noTags {
		builds(t, tag, 0, 1, 2)
		builds(t, tag, 0, 0, api.MaxKey, -1, api.MaxKey+1)
	}
}

func TestBuildOfMany(t *testing.T) {
	// Each length from 0 to MaxKey once, not rising, and then MaxKey very
	// often: the sum is more than 32 bits tell.
	const each, more = api.MaxKey + 1, 1 << 16
	var longs []int
	for i := range each {
		longs = append(longs, (i*40503+11)%each)
	}
	for range more {
		longs = append(longs, api.MaxKey)
	}
	bytes := each*api.MaxKey/2 + more*api.MaxKey
	keys := each + more
	builds(t, api.Crit, 2*keys, longs...)
	builds(t, api.Ternary, bytes+keys, longs...)
	builds(t, api.Radix, 3*keys, longs...)
	builds(t, api.Burst, 2*bytes+12*keys, longs...)
	builds(t, 5, 0, longs...)
}

func TestManyAtOnce(t *testing.T) {
	longs := []int{3, -1, 0, api.MaxKey, api.MaxKey + 1}
	var all sync.WaitGroup
	for range 8 {
		all.Go(func() {
			for range 200 {
				if got := Build(api.Ternary, longs...); got != 4+1+65536 {
					t.Errorf("R5: Build at one time with others: %d", got)
				}
			}
		})
	}
	all.Wait()
}
