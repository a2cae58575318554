package tests

import (
	"slices"
	"testing"
)

// compareColex decides at the last index at which two lists of the same length differ.
func compareColex(a, b []int) int {
	for i := len(a) - 1; i >= 0; i-- {
		if a[i] != b[i] {
			return a[i] - b[i]
		}
	}
	return 0
}

// subsetsOf finds the combinations of n with k elements by trying all sets, in no certain order.
func subsetsOf(n, k int) [][]int {
	var found [][]int
	for set := range 1 << n {
		var list []int
		for x := range n {
			if set>>x&1 == 1 {
				list = append(list, x)
			}
		}
		if len(list) == k {
			found = append(found, list)
		}
	}
	return found
}

func sortedSubsets(n, k int) [][]int {
	found := subsetsOf(n, k)
	slices.SortFunc(found, slices.Compare[[]int])
	return found
}

// sortedOrders makes the permutations of n by putting n - 1 in everywhere, and sorts them.
func sortedOrders(n int) [][]int {
	made := [][]int{{}}
	for x := range n {
		var longer [][]int
		for _, list := range made {
			for at := range len(list) + 1 {
				longer = append(longer, slices.Insert(slices.Clone(list), at, x))
			}
		}
		made = longer
	}
	slices.SortFunc(made, slices.Compare[[]int])
	return made
}

func upTo(n int) []int {
	list := make([]int, n)
	for i := range list {
		list[i] = i
	}
	return list
}

func downFrom(n int) []int {
	list := upTo(n)
	slices.Reverse(list)
	return list
}

func repeated(x, count int) []int { return slices.Repeat([]int{x}, count) }

func expectNumber(t *testing.T, what string, got int, ok bool, want int) {
	t.Helper()
	if !ok || got != want {
		t.Errorf("%s: %d, %v instead of %d, true", what, got, ok, want)
	}
}

func expectList(t *testing.T, what string, got []int, ok bool, want []int) {
	t.Helper()
	if !ok || !slices.Equal(got, want) {
		t.Errorf("%s: %v, %v instead of %v, true", what, got, ok, want)
	}
}

func expectLists(t *testing.T, what string, got [][]int, ok bool, want [][]int) {
	t.Helper()
	if !ok || !slices.EqualFunc(got, want, slices.Equal[[]int]) {
		t.Errorf("%s: %v, %v instead of %v, true", what, got, ok, want)
	}
}

func expectNoNumber(t *testing.T, what string, got int, ok bool) {
	t.Helper()
	if ok || got != 0 {
		t.Errorf("%s: %d, %v instead of 0, false", what, got, ok)
	}
}

func expectNoList(t *testing.T, what string, got []int, ok bool) {
	t.Helper()
	if ok || len(got) != 0 {
		t.Errorf("%s: %v, %v instead of nothing, false", what, got, ok)
	}
}

func expectNoLists(t *testing.T, what string, got [][]int, ok bool) {
	t.Helper()
	if ok || len(got) != 0 {
		t.Errorf("%s: %v, %v instead of nothing, false", what, got, ok)
	}
}
