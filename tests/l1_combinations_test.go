package tests

import (
	"fmt"
	"math"
	"slices"
	"testing"

	"loop.example/g01104/impl"
)

func TestFactorial(t *testing.T) {
	want := []int{1, 1, 2, 6, 24, 120, 720, 5040, 40320, 362880, 3628800, 39916800, 479001600}
	for n := range impl.MaxItems + 1 {
		got, ok := impl.Factorial(n)
		expectNumber(t, fmt.Sprint("Factorial ", n), got, ok, want[n])
	}
	for _, n := range []int{math.MinInt, -1, 13, math.MaxInt} {
		got, ok := impl.Factorial(n)
		expectNoNumber(t, fmt.Sprint("Factorial ", n), got, ok)
	}
}

func TestBinomialCountsSubsets(t *testing.T) {
	for n := range impl.MaxItems + 1 {
		for k := range impl.MaxItems + 1 {
			got, ok := impl.Binomial(n, k)
			expectNumber(t, fmt.Sprint("Binomial ", n, k), got, ok, len(subsetsOf(n, k)))
		}
	}
	for _, bad := range []int{math.MinInt, -1, 13, math.MaxInt} {
		got, ok := impl.Binomial(bad, 1)
		expectNoNumber(t, fmt.Sprint("Binomial of n ", bad), got, ok)
		got, ok = impl.Binomial(12, bad)
		expectNoNumber(t, fmt.Sprint("Binomial of k ", bad), got, ok)
	}
}

func TestIsCombination(t *testing.T) {
	valid := []struct {
		n    int
		list []int
	}{
		{0, nil}, {0, []int{}}, {12, nil}, {1, []int{0}}, {4, []int{0, 3}}, {5, []int{1, 2, 4}}, {12, upTo(12)}, {12, []int{11}},
	}
	for _, c := range valid {
		if !impl.IsCombination(c.n, c.list) {
			t.Errorf("%v is no combination of %d", c.list, c.n)
		}
	}
	for _, c := range badCombinations {
		if impl.IsCombination(c.n, c.list) {
			t.Errorf("%v is a combination of %d", c.list, c.n)
		}
	}
}

var badCombinations = []struct {
	n    int
	list []int
}{
	{-1, nil}, {13, nil}, {math.MinInt, nil}, {math.MaxInt, nil}, {13, []int{0}}, {0, []int{0}},
	{4, []int{4}}, {4, []int{0, 4}}, {4, []int{-1}}, {4, []int{-1, 2}}, {4, []int{1, 1}}, {4, []int{2, 1}},
	{4, []int{0, 2, 2}}, {4, []int{1, 1, 3}}, {4, []int{1, 0, 3}}, {12, upTo(13)}, {12, []int{12}},
	{12, []int{math.MinInt}}, {12, []int{math.MaxInt}}, {12, repeated(0, 2000)},
}

func TestCombinationsInOrder(t *testing.T) {
	for n := range impl.MaxItems + 1 {
		for k := range n + 1 {
			want := sortedSubsets(n, k)
			all, ok := impl.AllCombinations(n, k)
			expectLists(t, fmt.Sprint("AllCombinations ", n, k), all, ok, want)
			for r, list := range want {
				name := fmt.Sprint(n, list)
				if !impl.IsCombination(n, list) {
					t.Error("IsCombination is false:", name)
				}
				rank, ok := impl.CombinationRank(n, list)
				expectNumber(t, "CombinationRank "+name, rank, ok, r)
				at, ok := impl.CombinationAt(n, k, r)
				expectList(t, fmt.Sprint("CombinationAt ", n, k, r), at, ok, list)
				next, ok := impl.NextCombination(n, list)
				if r+1 < len(want) {
					expectList(t, "NextCombination "+name, next, ok, want[r+1])
				} else {
					expectNoList(t, "NextCombination "+name, next, ok)
				}
			}
			at, ok := impl.CombinationAt(n, k, len(want))
			expectNoList(t, fmt.Sprint("CombinationAt ", n, k, len(want)), at, ok)
		}
	}
}

func TestCombinationsInColexOrder(t *testing.T) {
	for k := range impl.MaxItems + 1 {
		want := subsetsOf(impl.MaxItems, k)
		slices.SortFunc(want, compareColex)
		for r, list := range want {
			rank, ok := impl.ColexRank(list)
			expectNumber(t, fmt.Sprint("ColexRank ", list), rank, ok, r)
			at, ok := impl.ColexAt(k, r)
			expectList(t, fmt.Sprint("ColexAt ", k, r), at, ok, list)
		}
		at, ok := impl.ColexAt(k, len(want))
		expectNoList(t, fmt.Sprint("ColexAt ", k, len(want)), at, ok)
	}
}

func TestCombinationExample(t *testing.T) {
	all, ok := impl.AllCombinations(4, 2)
	expectLists(t, "AllCombinations 4 2", all, ok, [][]int{{0, 1}, {0, 2}, {0, 3}, {1, 2}, {1, 3}, {2, 3}})
	for r, want := range [][]int{{0, 1}, {0, 2}, {1, 2}, {0, 3}, {1, 3}, {2, 3}} {
		got, ok := impl.ColexAt(2, r)
		expectList(t, fmt.Sprint("ColexAt 2 ", r), got, ok, want)
	}
}

func TestNoItemsToCombine(t *testing.T) {
	for _, n := range []int{0, 5, 12} {
		rank, ok := impl.CombinationRank(n, nil)
		expectNumber(t, "CombinationRank of none", rank, ok, 0)
		list, ok := impl.CombinationAt(n, 0, 0)
		expectList(t, "CombinationAt of none", list, ok, nil)
		all, ok := impl.AllCombinations(n, 0)
		expectLists(t, "AllCombinations of none", all, ok, [][]int{{}})
		next, ok := impl.NextCombination(n, nil)
		expectNoList(t, "NextCombination of none", next, ok)
	}
	rank, ok := impl.ColexRank(nil)
	expectNumber(t, "ColexRank of none", rank, ok, 0)
	list, ok := impl.ColexAt(0, 0)
	expectList(t, "ColexAt of none", list, ok, nil)
}

func TestMoreElementsThanThereAre(t *testing.T) {
	for n := range impl.MaxItems {
		for k := n + 1; k <= impl.MaxItems; k++ {
			all, ok := impl.AllCombinations(n, k)
			expectLists(t, fmt.Sprint("AllCombinations ", n, k), all, ok, nil)
			list, ok := impl.CombinationAt(n, k, 0)
			expectNoList(t, fmt.Sprint("CombinationAt ", n, k), list, ok)
		}
	}
}

func TestInvalidCombinations(t *testing.T) {
	for _, c := range badCombinations {
		name := fmt.Sprint(c.n, c.list)
		rank, ok := impl.CombinationRank(c.n, c.list)
		expectNoNumber(t, "CombinationRank "+name, rank, ok)
		next, ok := impl.NextCombination(c.n, c.list)
		expectNoList(t, "NextCombination "+name, next, ok)
	}
	for _, list := range [][]int{{12}, {-1}, {1, 1}, {2, 1}, {math.MaxInt}, upTo(13)} {
		rank, ok := impl.ColexRank(list)
		expectNoNumber(t, fmt.Sprint("ColexRank ", list), rank, ok)
	}
	for _, bad := range []int{math.MinInt, -1, 13, math.MaxInt} {
		all, ok := impl.AllCombinations(bad, 0)
		expectNoLists(t, fmt.Sprint("AllCombinations of n ", bad), all, ok)
		all, ok = impl.AllCombinations(5, bad)
		expectNoLists(t, fmt.Sprint("AllCombinations of k ", bad), all, ok)
		list, ok := impl.CombinationAt(bad, 0, 0)
		expectNoList(t, fmt.Sprint("CombinationAt of n ", bad), list, ok)
		list, ok = impl.CombinationAt(12, bad, 0)
		expectNoList(t, fmt.Sprint("CombinationAt of k ", bad), list, ok)
		list, ok = impl.ColexAt(bad, 0)
		expectNoList(t, fmt.Sprint("ColexAt of k ", bad), list, ok)
	}
	for _, r := range []int{math.MinInt, -1, 10, math.MaxInt} {
		list, ok := impl.CombinationAt(5, 2, r)
		expectNoList(t, fmt.Sprint("CombinationAt 5 2 ", r), list, ok)
	}
	for _, r := range []int{math.MinInt, -1, 66, math.MaxInt} {
		list, ok := impl.ColexAt(2, r)
		expectNoList(t, fmt.Sprint("ColexAt 2 ", r), list, ok)
	}
}
