package tests

import (
	"fmt"
	"math"
	"slices"
	"testing"

	"loop.example/g01104/impl"
)

// mirroredDigits makes the reflected list of bases as it is defined.
func mirroredDigits(bases []int) [][]int {
	if len(bases) == 0 {
		return [][]int{{}}
	}
	others := mirroredDigits(bases[1:])
	var lists [][]int
	for d := range bases[0] {
		for _, digits := range others {
			lists = append(lists, append([]int{d}, digits...))
		}
		slices.Reverse(others)
	}
	return lists
}

func firstDifference(a, b []int) int {
	for i := range a {
		if a[i] != b[i] {
			return i
		}
	}
	return -1
}

func expectNoStep(t *testing.T, what string, got []int, at int, ok bool) {
	t.Helper()
	if ok || len(got) != 0 || at != 0 {
		t.Errorf("%s: %v, %d, %v instead of nothing, 0, false", what, got, at, ok)
	}
}

func TestMixedExample(t *testing.T) {
	want := [][]int{{0, 0}, {0, 1}, {0, 2}, {1, 2}, {1, 1}, {1, 0}}
	for r, digits := range want {
		got, ok := impl.MixedAt([]int{2, 3}, r)
		expectList(t, fmt.Sprint("MixedAt 2 3 ", r), got, ok, digits)
	}
	mixed, ok := impl.IsMixedList([]int{2, 3}, want)
	expectFact(t, "IsMixedList", mixed, ok, true)
}

func TestMixedList(t *testing.T) {
	for _, bases := range [][]int{nil, {2}, {12}, {2, 3}, {3, 2}, {3, 3}, {5, 2, 12}, {12, 11, 10}, {2, 3, 2, 4, 3}, {4, 3, 3, 3, 2}, repeated(2, 12), repeated(3, 6)} {
		lists := mirroredDigits(bases)
		for r, digits := range lists {
			at, ok := impl.MixedAt(bases, r)
			expectList(t, fmt.Sprint("MixedAt ", bases, r), at, ok, digits)
			name := fmt.Sprint(bases, digits)
			rank, ok := impl.MixedRank(bases, digits)
			expectNumber(t, "MixedRank "+name, rank, ok, r)
			next, i, ok := impl.NextMixed(bases, digits)
			if r+1 == len(lists) {
				expectNoStep(t, "NextMixed "+name, next, i, ok)
			} else {
				expectList(t, "NextMixed "+name, next, ok, lists[r+1])
				expectNumber(t, "index of NextMixed "+name, i, ok, firstDifference(digits, lists[r+1]))
			}
		}
		for _, r := range []int{len(lists), -1, math.MinInt, math.MaxInt} {
			at, ok := impl.MixedAt(bases, r)
			expectNoList(t, fmt.Sprint("MixedAt ", bases, r), at, ok)
		}
		mixed, ok := impl.IsMixedList(bases, lists)
		if len(lists) <= impl.MaxList {
			expectFact(t, fmt.Sprint("IsMixedList ", bases), mixed, ok, true)
		} else {
			expectNoFact(t, fmt.Sprint("IsMixedList ", bases), mixed, ok)
		}
	}
}

func TestMixedListOfTheLargestProduct(t *testing.T) {
	bases := repeated(10, 6)
	got, ok := impl.MixedAt(bases, 999999)
	expectList(t, "MixedAt the last", got, ok, []int{9, 0, 0, 0, 0, 0})
	rank, ok := impl.MixedRank(bases, []int{9, 0, 0, 0, 0, 0})
	expectNumber(t, "MixedRank of the last", rank, ok, 999999)
	next, at, ok := impl.NextMixed(bases, []int{9, 0, 0, 0, 0, 0})
	expectNoStep(t, "NextMixed of the last", next, at, ok)
	next, at, ok = impl.NextMixed(bases, []int{9, 0, 0, 0, 0, 1})
	expectList(t, "NextMixed", next, ok && at == 5, []int{9, 0, 0, 0, 0, 0})
}

func TestInvalidMixed(t *testing.T) {
	for _, bases := range badBases {
		at, ok := impl.MixedAt(bases, 0)
		expectNoList(t, fmt.Sprint("MixedAt ", bases), at, ok)
		rank, ok := impl.MixedRank(bases, make([]int, len(bases)))
		expectNoNumber(t, fmt.Sprint("MixedRank ", bases), rank, ok)
		next, i, ok := impl.NextMixed(bases, make([]int, len(bases)))
		expectNoStep(t, fmt.Sprint("NextMixed ", bases), next, i, ok)
		mixed, ok := impl.IsMixedList(bases, [][]int{make([]int, len(bases))})
		expectNoFact(t, fmt.Sprint("IsMixedList ", bases), mixed, ok)
	}
	bases := []int{2, 3}
	for _, digits := range badDigits {
		rank, ok := impl.MixedRank(bases, digits)
		expectNoNumber(t, fmt.Sprint("MixedRank ", bases, digits), rank, ok)
		next, i, ok := impl.NextMixed(bases, digits)
		expectNoStep(t, fmt.Sprint("NextMixed ", bases, digits), next, i, ok)
	}
}

// plainMixed tells whether all digits stand in lists, and each differs from the one before by 1 in just one place.
func plainMixed(bases []int, lists [][]int) bool {
	sorted := slices.Clone(lists)
	slices.SortFunc(sorted, slices.Compare[[]int])
	if !slices.EqualFunc(sorted, digitsInOrder(bases), slices.Equal[[]int]) {
		return false
	}
	for i := 1; i < len(lists); i++ {
		distance := 0
		for j, digit := range lists[i] {
			distance += (digit - lists[i-1][j]) * (digit - lists[i-1][j])
		}
		if distance != 1 {
			return false
		}
	}
	return true
}

func TestMixedListsOfAllOrders(t *testing.T) {
	for _, bases := range [][]int{nil, {2}, {3}, {5}, {2, 2}, {2, 3}, {3, 2}} {
		digits := digitsInOrder(bases)
		for _, order := range sortedOrders(len(digits)) {
			var lists [][]int
			for _, i := range order {
				lists = append(lists, digits[i])
			}
			got, ok := impl.IsMixedList(bases, lists)
			expectFact(t, fmt.Sprint("IsMixedList ", bases, lists), got, ok, plainMixed(bases, lists))
		}
	}
}

func TestListsThatAreNotMixed(t *testing.T) {
	for _, c := range []struct {
		bases []int
		lists [][]int
	}{
		{nil, nil}, {nil, [][]int{{0}}}, {nil, [][]int{{}, {}}}, {[]int{2}, nil}, {[]int{2}, [][]int{{0}}}, {[]int{2}, [][]int{{0}, {0}}},
		{[]int{2}, [][]int{{0}, {1}, {0}}}, {[]int{2}, [][]int{{1}, {2}}}, {[]int{2}, [][]int{{-1}, {0}}}, {[]int{2}, [][]int{{0, 0}, {1, 0}}},
		{[]int{2}, [][]int{{0}, {}}}, {[]int{3}, [][]int{{0}, {2}, {1}}}, {[]int{3}, [][]int{{0}, {1}, {0}}}, {[]int{3}, [][]int{{0}, {1}, {math.MaxInt}}},
		{[]int{2, 2}, [][]int{{0, 0}, {0, 1}, {1, 0}, {1, 1}}}, {[]int{2, 2}, [][]int{{0, 0}, {0, 1}, {1, 1}, {0, 1}}}, {[]int{2, 2}, [][]int{{0}, {1}}},
		{[]int{12, 12, 12}, mirroredDigits([]int{10, 11, 10})}, {repeated(10, 6), nil}, {repeated(2, 12), [][]int{repeated(0, 12)}},
	} {
		got, ok := impl.IsMixedList(c.bases, c.lists)
		expectFact(t, fmt.Sprint("IsMixedList ", c.bases, c.lists), got, ok, false)
	}
}

func TestMixedListsOfAsManyAsAllowed(t *testing.T) {
	bases := []int{11, 10, 10}
	lists := mirroredDigits(bases)
	got, ok := impl.IsMixedList(bases, lists)
	expectFact(t, "IsMixedList of 1100 lists", got, ok, true)
	got, ok = impl.IsMixedList(bases, append(lists, []int{0, 0, 0}))
	expectNoFact(t, "IsMixedList of 1101 lists", got, ok)
	got, ok = impl.IsMixedList([]int{2}, make([][]int, 1100))
	expectFact(t, "IsMixedList of 1100 empty lists", got, ok, false)
}
