package tests

import (
	"fmt"
	"math"
	"slices"
	"testing"

	"loop.example/g01104/impl"
)

// plainEvenness looks at all pairs of bits.
func plainEvenness(n int, deltas []int) bool {
	counts := plainCounts(n, deltas)
	for _, a := range counts {
		for _, b := range counts {
			if a-b > 2 {
				return false
			}
		}
	}
	return true
}

func plainCounts(n int, deltas []int) []int {
	counts := make([]int, n)
	for _, bit := range deltas {
		counts[bit]++
	}
	return counts
}

// plainRun follows each change until its bit changes again.
func plainRun(deltas []int) int {
	least := math.MaxInt
	for i, bit := range deltas {
		run := 1
		for deltas[(i+run)%len(deltas)] != bit {
			run++
		}
		least = min(least, run)
	}
	return least
}

func TestDeltas(t *testing.T) {
	for n := 1; n <= impl.MaxBits; n++ {
		for start := 0; start < 1<<n; start += 1 + start/2 {
			deltas := make([]int, 0, impl.MaxList-1)
			want := []int{start}
			for i := range impl.MaxList - 1 {
				bit := (i*i + start + i/7) % n
				deltas = append(deltas, bit)
				want = append(want, want[i]^1<<bit)
			}
			name := fmt.Sprint(n, start)
			list, ok := impl.FromDeltas(n, start, deltas)
			expectList(t, "FromDeltas "+name, list, ok, want)
			back, ok := impl.DeltasOf(n, want)
			expectList(t, "DeltasOf "+name, back, ok, deltas)
			counts, ok := impl.ChangesOf(n, want)
			expectList(t, "ChangesOf "+name, counts, ok, plainCounts(n, deltas))
			list, ok = impl.FromDeltas(n, start, append(deltas, 0))
			expectNoList(t, "FromDeltas of one more "+name, list, ok)
		}
	}
}

func TestFewWordsWithChanges(t *testing.T) {
	for _, list := range [][]int{nil, {0}, {3}} {
		deltas, ok := impl.DeltasOf(2, list)
		expectList(t, fmt.Sprint("DeltasOf ", list), deltas, ok, nil)
		counts, ok := impl.ChangesOf(2, list)
		expectList(t, fmt.Sprint("ChangesOf ", list), counts, ok, []int{0, 0})
	}
	list, ok := impl.FromDeltas(1, 1, nil)
	expectList(t, "FromDeltas of none", list, ok, []int{1})
	deltas, ok := impl.DeltasOf(3, []int{2, 6, 7, 6, 4})
	expectList(t, "DeltasOf", deltas, ok, []int{2, 0, 0, 1})
	counts, ok := impl.ChangesOf(4, []int{2, 6, 7, 6, 4})
	expectList(t, "ChangesOf", counts, ok, []int{2, 1, 1, 0})
}

func TestWordsWithoutOneChange(t *testing.T) {
	for _, list := range [][]int{{0, 0}, {0, 3}, {0, 1, 1}, {0, 7}, {1, 2}, {0, 1, 2, 6}, {0, 1, 3, 2, 7}} {
		deltas, ok := impl.DeltasOf(3, list)
		expectNoList(t, fmt.Sprint("DeltasOf ", list), deltas, ok)
		counts, ok := impl.ChangesOf(3, list)
		expectNoList(t, fmt.Sprint("ChangesOf ", list), counts, ok)
	}
}

func TestInvalidDeltas(t *testing.T) {
	for _, c := range []struct {
		n, start int
		deltas   []int
	}{
		{0, 0, nil}, {-1, 0, nil}, {11, 0, nil}, {math.MinInt, 0, nil}, {math.MaxInt, 0, nil}, {1, 2, nil}, {1, -1, nil}, {10, 1024, nil},
		{2, 0, []int{2}}, {2, 0, []int{-1}}, {2, 0, []int{0, 1, 2}}, {2, 0, []int{math.MaxInt}}, {2, 0, []int{math.MinInt}},
		{2, 4, []int{0}}, {1, 0, repeated(0, 1100)}, {1, 0, repeated(0, 5000)},
	} {
		list, ok := impl.FromDeltas(c.n, c.start, c.deltas)
		expectNoList(t, fmt.Sprint("FromDeltas ", c), list, ok)
	}
}

func expectChanges(t *testing.T, n int, list []int) {
	t.Helper()
	name := fmt.Sprint(n, list)
	even, ok := impl.IsEvenlyChanged(n, list)
	run, isRun := impl.LeastRun(n, list)
	if _, round := plainKind(n, list); !round {
		expectNoFact(t, "IsEvenlyChanged "+name, even, ok)
		expectNoNumber(t, "LeastRun "+name, run, isRun)
		return
	}
	deltas, _ := plainDeltas(list, true)
	expectFact(t, "IsEvenlyChanged "+name, even, ok, plainEvenness(n, deltas))
	expectNumber(t, "LeastRun "+name, run, isRun, plainRun(deltas))
}

func TestChangesOfRoundCodes(t *testing.T) {
	for n := 1; n <= 4; n++ {
		// All codes of 4 bits are many, so that the first changes of most of them are fixed.
		for _, code := range codesOf(n, mirroredWords(n)[:max(1, 3*(n-3))]) {
			expectChanges(t, n, code)
		}
	}
	for n := 5; n <= impl.MaxBits; n++ {
		expectChanges(t, n, mirroredWords(n))
	}
	expectChanges(t, 3, []int{0, 1, 3, 2, 6, 7, 5})
	expectChanges(t, 2, []int{0, 1, 3, 3})
}

func TestEvennessAndRuns(t *testing.T) {
	for _, c := range []struct {
		n      int
		deltas []int
		even   bool
		run    int
	}{
		{1, []int{0}, true, 1},
		{2, []int{0, 1, 0}, true, 2},
		{3, []int{0, 1, 0, 2, 0, 1, 0}, true, 2},
		{4, []int{0, 1, 0, 2, 0, 1, 0, 3, 0, 1, 0, 2, 0, 1, 0}, false, 2},
		{4, []int{0, 1, 0, 2, 1, 0, 1, 3, 1, 0, 1, 2, 0, 1, 0}, false, 2},
		{4, []int{0, 1, 2, 3, 2, 1, 0, 2, 0, 3, 0, 1, 3, 2, 3}, true, 2},
		{5, []int{0, 1, 2, 3, 0, 1, 2, 4, 0, 3, 2, 1, 0, 3, 2, 4, 0, 1, 2, 3, 0, 1, 2, 4, 0, 3, 2, 1, 0, 3, 2}, false, 4},
	} {
		list, ok := impl.FromDeltas(c.n, 0, c.deltas)
		name := fmt.Sprint(c.n, list)
		if _, round := plainKind(c.n, list); !ok || !round {
			t.Errorf("no round code: %s", name)
			continue
		}
		even, ok := impl.IsEvenlyChanged(c.n, list)
		expectFact(t, "IsEvenlyChanged "+name, even, ok, c.even)
		run, ok := impl.LeastRun(c.n, list)
		expectNumber(t, "LeastRun "+name, run, ok, c.run)
	}
}

func TestHalves(t *testing.T) {
	for _, c := range []struct {
		n         int
		list      []int
		even, odd int
	}{
		{1, nil, 0, 0}, {1, []int{0}, 1, 0}, {1, []int{1}, 0, 1}, {3, []int{7, 7, 3, 0, 5}, 3, 2}, {10, []int{1023, 511}, 1, 1},
		{1, repeated(1, 1100), 0, 1100}, {2, repeated(3, 1100), 1100, 0}, {10, upTo(1024), 512, 512},
	} {
		even, odd, ok := impl.HalvesOf(c.n, c.list)
		expectPair(t, fmt.Sprint("HalvesOf ", c.n, c.list), even, odd, ok, c.even, c.odd)
	}
}

func TestPathsThroughFewWords(t *testing.T) {
	for set := 1; set < 1<<8; set++ {
		var words []int
		for w := range 8 {
			if set>>w&1 == 1 {
				words = append(words, w)
			}
		}
		if len(words) > 6 {
			continue
		}
		expectPath(t, 3, words)
		slices.Reverse(words)
		expectPath(t, 5, words)
	}
	for _, words := range [][]int{{8, 9, 1, 512, 0}, {1023, 1022, 510}, {16, 48, 32, 33, 49, 17}, {10, 2, 3, 11, 9, 1}} {
		expectPath(t, 10, words)
	}
}

// expectPath tries all orders of words.
func expectPath(t *testing.T, n int, words []int) {
	t.Helper()
	sorted := sortedOf(words)
	name := fmt.Sprint("PathThrough ", n, words)
	got, ok := impl.PathThrough(n, words)
	for _, order := range sortedOrders(len(words)) {
		var list []int
		for _, i := range order {
			list = append(list, sorted[i])
		}
		if _, near := plainDeltas(list, false); near {
			expectList(t, name, got, ok, list)
			return
		}
	}
	expectNoList(t, name, got, ok)
}

func TestPathsThroughTwelveWords(t *testing.T) {
	snake := []int{0, 1, 3, 7, 15, 31, 63, 127, 255, 511, 1023, 1022}
	for k := range 12 {
		got, ok := impl.PathThrough(10, append(slices.Clone(snake[k:]), snake[:k]...))
		expectList(t, "PathThrough of a path", got, ok, snake)
	}
	got, ok := impl.PathThrough(4, upTo(12))
	expectList(t, "PathThrough of 0..11", got, ok, []int{0, 1, 3, 7, 5, 4, 6, 2, 10, 8, 9, 11})
}

func TestWordsWithoutPath(t *testing.T) {
	star := []int{0, 1, 2, 4, 8, 16, 32, 64, 128, 256, 512}
	for _, c := range []struct {
		n    int
		list []int
	}{
		{10, star}, {10, nil}, {1, []int{0, 0}}, {2, []int{0, 1, 0}}, {3, []int{0, 1, 6, 7}}, {2, []int{0, 3}}, {3, []int{0, 3, 5, 1}},
		{4, mirroredWords(4)[:13]}, {4, mirroredWords(4)}, {1, []int{0, 1, 0, 1}}, {10, append(slices.Clone(star), 3)},
	} {
		got, ok := impl.PathThrough(c.n, c.list)
		expectNoList(t, fmt.Sprint("PathThrough ", c.n, c.list), got, ok)
	}
}
