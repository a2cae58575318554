package tests

import (
	"fmt"
	"math"
	"slices"
	"testing"

	"loop.example/g01104/impl"
)

// partedCounts are how many parted numbers there are, from the total 0 on.
var partedCounts = []int{1, 1, 2, 3, 5, 7, 11, 15, 22, 30, 42, 56, 77, 101, 135, 176, 231, 297, 385, 490, 627}

// badParted has lists whose sum is small only because it overflows, too.
var badParted = [][]int{
	{0}, {-1}, {1, 0}, {0, 0}, {3, 0, 1}, {1, 2}, {2, 1, 2}, {1, 1, 2}, {3, -1}, {1, -1}, {21}, {20, 1}, {11, 10}, {10, 11}, append([]int{2}, repeated(1, 19)...), repeated(1, 21), repeated(0, 20), repeated(0, 21),
	{math.MaxInt}, {math.MinInt}, {math.MaxInt, math.MinInt}, {math.MinInt, math.MinInt}, {math.MaxInt, math.MaxInt, 2}, {math.MaxInt, math.MaxInt, 20, 2}, {math.MaxInt, math.MaxInt, 4, 2, 1}, {5, math.MinInt, math.MinInt},
	repeated(1, 5000), repeated(0, 5000),
}

func plainSum(list []int) int {
	sum := 0
	for _, x := range list {
		sum += x
	}
	return sum
}

// plainParted checks a list of small numbers as parted numbers are defined.
func plainParted(list []int) bool {
	for i, x := range list {
		if x < 1 || i > 0 && x > list[i-1] {
			return false
		}
	}
	return len(list) <= 20 && plainSum(list) <= 20
}

// fallingParted cuts a row of n everywhere, and takes those that do not rise from the greatest one down.
func fallingParted(n int) [][]int {
	if n == 0 {
		return [][]int{nil}
	}
	var all [][]int
	for cuts := range 1 << (n - 1) {
		list := []int{1}
		for at := range n - 1 {
			if cuts>>at&1 == 1 {
				list = append(list, 1)
			} else {
				list[len(list)-1]++
			}
		}
		if plainParted(list) {
			all = append(all, list)
		}
	}
	slices.SortFunc(all, func(a, b []int) int { return slices.Compare(b, a) })
	return all
}

func expectParted(t *testing.T, list []int, want bool) {
	t.Helper()
	if impl.IsParted(list) != want {
		t.Errorf("IsParted %v is not %v", list, want)
	}
}

func expectNoPartedWith(t *testing.T, n, rank int) {
	t.Helper()
	list, ok := impl.PartedWith(n, rank)
	expectNoList(t, fmt.Sprint("PartedWith ", n, rank), list, ok)
}

func TestIsParted(t *testing.T) {
	for length := range 6 {
		forChoices([]int{-1, 0, 1, 2, 3, 5, 7}, length, nil, func(list []int) { expectParted(t, list, plainParted(list)) })
	}
	for _, list := range badParted {
		expectParted(t, list, false)
	}
	for _, list := range [][]int{nil, {}, {1}, {20}, {10, 10}, {19, 1}, {6, 5, 4, 3, 2}, repeated(1, 20), repeated(4, 5), append([]int{2}, repeated(1, 18)...)} {
		expectParted(t, list, true)
	}
}

// TestPartedInOrder goes through all totals. Those above 16, which have too many cuts, have as many lists as there are, each less than that before it.
func TestPartedInOrder(t *testing.T) {
	for n, count := range partedCounts {
		all, ok := impl.PartedOf(n)
		if n <= 16 {
			expectLists(t, fmt.Sprint("PartedOf ", n), all, ok, fallingParted(n))
		}
		if !ok || len(all) != count {
			t.Errorf("PartedOf %d: %d lists, %v", n, len(all), ok)
		}
		for r, list := range all {
			if !plainParted(list) || plainSum(list) != n || r > 0 && slices.Compare(all[r-1], list) <= 0 {
				t.Errorf("PartedOf %d: %v", n, list)
			}
			expectParted(t, list, true)
			rank, ok := impl.RankParted(list)
			expectNumber(t, fmt.Sprint("RankParted ", list), rank, ok, r)
			at, ok := impl.PartedWith(n, r)
			expectList(t, fmt.Sprint("PartedWith ", n, r), at, ok, list)
		}
		for _, rank := range []int{math.MinInt, -1, count, count + 1, math.MaxInt} {
			expectNoPartedWith(t, n, rank)
		}
	}
}

func TestFirstAndLastParted(t *testing.T) {
	for n := 1; n <= 20; n++ {
		first, ok := impl.PartedWith(n, 0)
		expectList(t, fmt.Sprint("the first PartedWith ", n), first, ok, []int{n})
		last, ok := impl.PartedWith(n, partedCounts[n]-1)
		expectList(t, fmt.Sprint("the last PartedWith ", n), last, ok, repeated(1, n))
	}
	all, ok := impl.PartedOf(5)
	expectLists(t, "PartedOf 5", all, ok, [][]int{{5}, {4, 1}, {3, 2}, {3, 1, 1}, {2, 2, 1}, {2, 1, 1, 1}, {1, 1, 1, 1, 1}})
}

func TestCountParted(t *testing.T) {
	for n := range 21 {
		all, _ := impl.PartedOf(n)
		for most := range 21 {
			want := 0
			for _, list := range all {
				if !slices.ContainsFunc(list, func(x int) bool { return x > most }) {
					want++
				}
			}
			count, ok := impl.CountParted(n, most)
			expectNumber(t, fmt.Sprint("CountParted ", n, most), count, ok, want)
		}
	}
	for _, c := range [][3]int{{0, 0, 1}, {0, 20, 1}, {5, 0, 0}, {20, 0, 0}, {5, 1, 1}, {5, 2, 3}, {5, 5, 7}, {5, 20, 7}, {20, 1, 1}, {20, 2, 11}, {20, 3, 44}, {20, 19, 626}, {20, 20, 627}} {
		count, ok := impl.CountParted(c[0], c[1])
		expectNumber(t, fmt.Sprint("CountParted ", c[0], c[1]), count, ok, c[2])
	}
}

func TestTotalOfNothing(t *testing.T) {
	for _, none := range [][]int{nil, {}} {
		expectParted(t, none, true)
		rank, ok := impl.RankParted(none)
		expectNumber(t, "RankParted of nothing", rank, ok, 0)
		conjugate, ok := impl.ConjugateOf(none)
		expectList(t, "ConjugateOf nothing", conjugate, ok, nil)
		expectDominance(t, none, none)
		expectDominance(t, none, []int{1})
		expectDominance(t, []int{1}, none)
	}
	all, ok := impl.PartedOf(0)
	expectLists(t, "PartedOf 0", all, ok, [][]int{{}})
	list, ok := impl.PartedWith(0, 0)
	expectList(t, "PartedWith 0 0", list, ok, nil)
	expectNoPartedWith(t, 0, 1)
	count, ok := impl.CountParted(0, 0)
	expectNumber(t, "CountParted 0 0", count, ok, 1)
}

func TestInvalidParted(t *testing.T) {
	for _, list := range badParted {
		rank, ok := impl.RankParted(list)
		expectNoNumber(t, fmt.Sprint("RankParted ", list), rank, ok)
		conjugate, ok := impl.ConjugateOf(list)
		expectNoList(t, fmt.Sprint("ConjugateOf ", list), conjugate, ok)
		for _, other := range [][]int{nil, {1}, {20}, repeated(1, 20), list} {
			dominates, ok := impl.DominatesParted(list, other)
			expectNoFact(t, fmt.Sprint("DominatesParted ", list, other), dominates, ok)
			dominates, ok = impl.DominatesParted(other, list)
			expectNoFact(t, fmt.Sprint("DominatesParted ", other, list), dominates, ok)
		}
	}
	for _, bad := range []int{math.MinInt, -1, 21, math.MaxInt} {
		all, ok := impl.PartedOf(bad)
		expectNoLists(t, fmt.Sprint("PartedOf ", bad), all, ok)
		expectNoPartedWith(t, bad, 0)
		for _, good := range []int{0, 5, 20} {
			count, ok := impl.CountParted(bad, good)
			expectNoNumber(t, fmt.Sprint("CountParted ", bad, good), count, ok)
			count, ok = impl.CountParted(good, bad)
			expectNoNumber(t, fmt.Sprint("CountParted ", good, bad), count, ok)
		}
	}
}

// plainConjugate puts the number of each row of dots below the dots of its column.
func plainConjugate(list []int) []int {
	var columns []int
	for _, length := range list {
		for column := range length {
			if column == len(columns) {
				columns = append(columns, 0)
			}
			columns[column]++
		}
	}
	return columns
}

func TestConjugates(t *testing.T) {
	for n := range 21 {
		all, _ := impl.PartedOf(n)
		for _, list := range all {
			conjugate, ok := impl.ConjugateOf(list)
			expectList(t, fmt.Sprint("ConjugateOf ", list), conjugate, ok, plainConjugate(list))
			back, ok := impl.ConjugateOf(conjugate)
			expectList(t, fmt.Sprint("ConjugateOf ", conjugate), back, ok, list)
		}
	}
	for _, c := range [][2][]int{{{2, 1, 1}, {3, 1}}, {{4, 4, 1}, {3, 2, 2, 2}}, {{2, 1}, {2, 1}}, {{20}, repeated(1, 20)}} {
		conjugate, ok := impl.ConjugateOf(c[0])
		expectList(t, fmt.Sprint("ConjugateOf ", c[0]), conjugate, ok, c[1])
		conjugate, ok = impl.ConjugateOf(c[1])
		expectList(t, fmt.Sprint("ConjugateOf ", c[1]), conjugate, ok, c[0])
	}
}

// plainDominance compares the sums of both lists made as long as each other by zeros.
func plainDominance(a, b []int) bool {
	long, other := append(slices.Clone(a), repeated(0, len(b))...), append(slices.Clone(b), repeated(0, len(a))...)
	for k := range long {
		if plainSum(long[:k]) < plainSum(other[:k]) {
			return false
		}
	}
	return plainSum(a) == plainSum(b)
}

func expectDominance(t *testing.T, a, b []int) {
	t.Helper()
	dominates, ok := impl.DominatesParted(a, b)
	expectFact(t, fmt.Sprint("DominatesParted ", a, b), dominates, ok, plainDominance(a, b))
}

func TestDominance(t *testing.T) {
	var all [][]int
	for n := range 9 {
		all = append(all, fallingParted(n)...)
	}
	for _, a := range all {
		for _, b := range all {
			expectDominance(t, a, b)
		}
	}
	greatest, _ := impl.PartedOf(20)
	for i, a := range greatest {
		for k := i % 7; k < len(greatest); k += 7 {
			expectDominance(t, a, greatest[k])
		}
	}
}

func TestDominanceExamples(t *testing.T) {
	for _, c := range []struct {
		a, b []int
		want bool
	}{
		{nil, nil, true}, {nil, []int{1}, false}, {[]int{1}, nil, false}, {[]int{3}, []int{1, 1, 1}, true}, {[]int{1, 1, 1}, []int{3}, false}, {[]int{2, 2}, []int{2, 1, 1}, true},
		{[]int{4, 1, 1}, []int{3, 3}, false}, {[]int{3, 3}, []int{4, 1, 1}, false}, {[]int{3, 2}, []int{3, 1}, false}, {[]int{3, 1}, []int{3, 2}, false}, {[]int{5}, []int{2, 2}, false},
		{[]int{20}, repeated(1, 20), true}, {repeated(1, 20), []int{20}, false}, {[]int{20}, repeated(1, 19), false}, {repeated(1, 20), repeated(1, 20), true},
	} {
		dominates, ok := impl.DominatesParted(c.a, c.b)
		expectFact(t, fmt.Sprint("DominatesParted ", c.a, c.b), dominates, ok, c.want)
	}
}
