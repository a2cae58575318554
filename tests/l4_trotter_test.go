package tests

import (
	"fmt"
	"math"
	"slices"
	"testing"

	"loop.example/g01104/impl"
)

// plainTrotter makes Trotter's list as it is defined.
func plainTrotter(n int) [][]int {
	if n <= 1 {
		return [][]int{upTo(n)}
	}
	var all [][]int
	for index, list := range plainTrotter(n - 1) {
		for turn := range n {
			at := turn
			if index%2 == 0 {
				at = n - 1 - turn
			}
			all = append(all, slices.Insert(slices.Clone(list), at, n-1))
		}
	}
	return all
}

// expectNextTrotter also holds the index against the exchange of the neighbours there.
func expectNextTrotter(t *testing.T, list, want []int) {
	t.Helper()
	name := fmt.Sprint("NextTrotter ", list)
	next, at, ok := impl.NextTrotter(list)
	expectList(t, name, next, ok, want)
	if at < 0 || at+1 >= len(list) {
		t.Errorf("%s exchanges at %d", name, at)
		return
	}
	expectList(t, name, plainMove(list, impl.Move{Kind: impl.MoveSwap, I: at, J: at + 1}), true, want)
}

func expectNoNextTrotter(t *testing.T, list []int) {
	t.Helper()
	next, at, ok := impl.NextTrotter(list)
	expectNoList(t, fmt.Sprint("NextTrotter ", list), next, ok)
	expectNoNumber(t, fmt.Sprint("the index of NextTrotter ", list), at, ok)
}

func TestTrotterExample(t *testing.T) {
	want := [][]int{{0, 1, 2}, {0, 2, 1}, {2, 0, 1}, {2, 1, 0}, {1, 2, 0}, {1, 0, 2}}
	for r, list := range want {
		at, ok := impl.TrotterAt(3, r)
		expectList(t, fmt.Sprint("TrotterAt 3 ", r), at, ok, list)
	}
	for r, want := range []int{1, 0, 1, 0, 1} {
		list, _ := impl.TrotterAt(3, r)
		_, at, ok := impl.NextTrotter(list)
		expectNumber(t, fmt.Sprint("the index of NextTrotter ", list), at, ok, want)
	}
}

func TestTrotterList(t *testing.T) {
	for n := range 8 {
		want := plainTrotter(n)
		for r, list := range want {
			at, ok := impl.TrotterAt(n, r)
			expectList(t, fmt.Sprint("TrotterAt ", n, r), at, ok, list)
			rank, ok := impl.TrotterRank(list)
			expectNumber(t, fmt.Sprint("TrotterRank ", list), rank, ok, r)
			if r+1 < len(want) {
				expectNextTrotter(t, list, want[r+1])
			} else {
				expectNoNextTrotter(t, list)
			}
		}
		for _, r := range []int{math.MinInt, -1, len(want), math.MaxInt} {
			at, ok := impl.TrotterAt(n, r)
			expectNoList(t, fmt.Sprint("TrotterAt ", n, r), at, ok)
		}
	}
}

func TestFewItemsInTrottersList(t *testing.T) {
	for n := range 2 {
		at, ok := impl.TrotterAt(n, 0)
		expectList(t, fmt.Sprint("TrotterAt ", n, 0), at, ok, upTo(n))
		rank, ok := impl.TrotterRank(upTo(n))
		expectNumber(t, fmt.Sprint("TrotterRank ", upTo(n)), rank, ok, 0)
		expectNoNextTrotter(t, upTo(n))
		at, ok = impl.TrotterAt(n, 1)
		expectNoList(t, fmt.Sprint("TrotterAt ", n, 1), at, ok)
	}
	expectNextTrotter(t, []int{0, 1}, []int{1, 0})
	expectNoNextTrotter(t, []int{1, 0})
}

func TestManyItemsInTrottersList(t *testing.T) {
	for n := 8; n <= impl.MaxItems; n++ {
		count, _ := impl.Factorial(n)
		for r := 0; r+1 < count; r += count/97 + 1 {
			list, ok := impl.TrotterAt(n, r)
			rank, rankOk := impl.TrotterRank(list)
			if !ok || !rankOk || rank != r {
				t.Errorf("TrotterAt %d %d: %v with the rank %d", n, r, list, rank)
			}
			want, _ := impl.TrotterAt(n, r+1)
			expectNextTrotter(t, list, want)
		}
		last := append([]int{1, 0}, upTo(n)[2:]...)
		at, ok := impl.TrotterAt(n, count-1)
		expectList(t, fmt.Sprint("TrotterAt ", n, " at the end"), at, ok, last)
		rank, ok := impl.TrotterRank(last)
		expectNumber(t, fmt.Sprint("TrotterRank ", last), rank, ok, count-1)
		expectNoNextTrotter(t, last)
		at, ok = impl.TrotterAt(n, count)
		expectNoList(t, fmt.Sprint("TrotterAt ", n, " behind the end"), at, ok)
	}
	at, ok := impl.TrotterAt(12, 12)
	expectList(t, "TrotterAt 12 12", at, ok, []int{11, 0, 1, 2, 3, 4, 5, 6, 7, 8, 10, 9})
}

func TestInvalidTrotter(t *testing.T) {
	for _, n := range []int{math.MinInt, -1, 13, 64, math.MaxInt} {
		at, ok := impl.TrotterAt(n, 0)
		expectNoList(t, fmt.Sprint("TrotterAt ", n, 0), at, ok)
	}
	for _, list := range badPermutations {
		rank, ok := impl.TrotterRank(list)
		expectNoNumber(t, fmt.Sprint("TrotterRank ", list), rank, ok)
		expectNoNextTrotter(t, list)
	}
}
