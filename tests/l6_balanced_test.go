package tests

import (
	"fmt"
	"math"
	"slices"
	"testing"

	"loop.example/g01104/impl"
)

// catalanNumbers are how many balanced words there are, from no pairs on.
var catalanNumbers = []int{1, 1, 2, 5, 14, 42, 132, 429, 1430, 4862, 16796, 58786, 208012}

var badBalanced = [][]int{
	{0}, {1}, {0, 0}, {1, 1}, {0, 1}, {1, 0, 0}, {1, 0, 1}, {1, 1, 0}, {1, 0, 0, 1}, {0, 1, 1, 0}, {1, 1, 1, 0}, {1, 0, 0, 0}, {1, 0, 0, 1, 1, 0}, {2, 0}, {1, 2}, {1, -1}, {2, -2},
	{1, 0, 2}, {1, 2, -1, 0}, {math.MinInt}, {math.MaxInt}, {math.MaxInt, math.MinInt}, {1, math.MinInt}, append(repeated(1, 13), repeated(0, 13)...), slices.Repeat([]int{1, 0}, 13), append(slices.Repeat([]int{1, 0}, 12), 1),
	append(repeated(1, 12), repeated(0, 13)...), repeated(0, 24), repeated(1, 24), repeated(1, 5000), slices.Repeat([]int{1, 0}, 5000),
}

// plainBalanced checks a list as balanced words are defined.
func plainBalanced(w []int) bool {
	if len(w) > 24 {
		return false
	}
	ones, zeros := 0, 0
	for _, letter := range w {
		switch letter {
		case 0:
			zeros++
		case 1:
			ones++
		default:
			return false
		}
		if zeros > ones {
			return false
		}
	}
	return ones == zeros
}

// sortedBalanced tries all words.
func sortedBalanced(n int) [][]int {
	var all [][]int
	forChoices([]int{0, 1}, 2*n, nil, func(w []int) {
		if plainBalanced(w) {
			all = append(all, w)
		}
	})
	slices.SortFunc(all, slices.Compare[[]int])
	return all
}

func expectBalanced(t *testing.T, w []int, want bool) {
	t.Helper()
	if impl.IsBalancedWord(w) != want {
		t.Errorf("IsBalancedWord %v is not %v", w, want)
	}
}

func expectRankOfBalanced(t *testing.T, w []int, r int) {
	t.Helper()
	expectBalanced(t, w, true)
	rank, ok := impl.RankBalanced(w)
	expectNumber(t, fmt.Sprint("RankBalanced ", w), rank, ok, r)
	list, ok := impl.BalancedWith(len(w)/2, r)
	expectList(t, fmt.Sprint("BalancedWith ", len(w)/2, r), list, ok, w)
}

func expectNoBalancedWith(t *testing.T, n, rank int) {
	t.Helper()
	list, ok := impl.BalancedWith(n, rank)
	expectNoList(t, fmt.Sprint("BalancedWith ", n, rank), list, ok)
}

func TestIsBalancedWord(t *testing.T) {
	for length := range 7 {
		forChoices([]int{-1, 0, 1, 2}, length, nil, func(w []int) { expectBalanced(t, w, plainBalanced(w)) })
	}
	for _, w := range badBalanced {
		expectBalanced(t, w, false)
	}
	for _, w := range [][]int{nil, {}, slices.Repeat([]int{1, 0}, 12), append(repeated(1, 12), repeated(0, 12)...)} {
		expectBalanced(t, w, true)
	}
}

func TestBalancedInOrder(t *testing.T) {
	for n := range 8 {
		all := sortedBalanced(n)
		count, ok := impl.CountBalanced(n)
		expectNumber(t, fmt.Sprint("CountBalanced ", n), count, ok, len(all))
		for r, w := range all {
			expectRankOfBalanced(t, w, r)
		}
	}
}

func TestNumbersOfBalanced(t *testing.T) {
	for n := range 13 {
		count, ok := impl.CountBalanced(n)
		expectNumber(t, fmt.Sprint("CountBalanced ", n), count, ok, catalanNumbers[n])
		expectRankOfBalanced(t, slices.Repeat([]int{1, 0}, n), 0)
		expectRankOfBalanced(t, append(repeated(1, n), repeated(0, n)...), catalanNumbers[n]-1)
		for _, rank := range []int{math.MinInt, -1, catalanNumbers[n], catalanNumbers[n] + 1, math.MaxInt} {
			expectNoBalancedWith(t, n, rank)
		}
	}
}

// TestLongBalanced goes through all words of 10 pairs and through some of more: as many words as there are, each greater than that before it, are all of them in order.
func TestLongBalanced(t *testing.T) {
	for n, step := range map[int]int{8: 1, 9: 1, 10: 1, 11: 53, 12: 181} {
		var before []int
		for r := 0; r < catalanNumbers[n]; r += step {
			w, ok := impl.BalancedWith(n, r)
			if !ok || len(w) != 2*n || !plainBalanced(w) || slices.Compare(before, w) >= 0 {
				t.Errorf("BalancedWith %d %d: %v, %v behind %v", n, r, w, ok, before)
			}
			rank, ok := impl.RankBalanced(w)
			expectNumber(t, fmt.Sprint("RankBalanced ", w), rank, ok, r)
			before = w
		}
	}
}

func TestNoPairs(t *testing.T) {
	for _, none := range [][]int{nil, {}} {
		expectRankOfBalanced(t, none, 0)
		parents, ok := impl.ParentsOf(none)
		expectList(t, "ParentsOf nothing", parents, ok, nil)
		w, ok := impl.WordOfParents(none)
		expectList(t, "WordOfParents nothing", w, ok, nil)
		a, ok := impl.GrowthOfWord(none)
		expectNoList(t, "GrowthOfWord nothing", a, ok)
	}
	count, ok := impl.CountBalanced(0)
	expectNumber(t, "CountBalanced 0", count, ok, 1)
	expectNoBalancedWith(t, 0, 1)
	lists, ok := impl.GrayBalanced(0)
	expectLists(t, "GrayBalanced 0", lists, ok, [][]int{{}})
}

func TestInvalidBalanced(t *testing.T) {
	for _, w := range badBalanced {
		rank, ok := impl.RankBalanced(w)
		expectNoNumber(t, fmt.Sprint("RankBalanced ", w), rank, ok)
		parents, ok := impl.ParentsOf(w)
		expectNoList(t, fmt.Sprint("ParentsOf ", w), parents, ok)
		a, ok := impl.GrowthOfWord(w)
		expectNoList(t, fmt.Sprint("GrowthOfWord ", w), a, ok)
	}
	for _, n := range []int{math.MinInt, -1, 13, math.MaxInt} {
		count, ok := impl.CountBalanced(n)
		expectNoNumber(t, fmt.Sprint("CountBalanced ", n), count, ok)
		expectNoBalancedWith(t, n, 0)
	}
	for _, n := range []int{math.MinInt, -1, 8, 12, math.MaxInt} {
		lists, ok := impl.GrayBalanced(n)
		expectNoLists(t, fmt.Sprint("GrayBalanced ", n), lists, ok)
	}
}

func placesOfOnes(w []int) []int {
	var places []int
	for place, letter := range w {
		if letter == 1 {
			places = append(places, place)
		}
	}
	return places
}

// plainGrayBalanced makes the list as it is told.
func plainGrayBalanced(n int) [][]int {
	if n < 2 {
		return [][]int{slices.Repeat([]int{1, 0}, n)}
	}
	var lists [][]int
	for i, w := range plainGrayBalanced(n - 1) {
		places := placesOfOnes(w)
		z := places[len(places)-1]
		lasts := append([]int{2*n - 2}, upTo(2*n - 2)[z+1:]...)
		if i%2 == 1 {
			lasts = append(downFrom(2*n - 2)[:2*n-3-z], 2*n-2)
		}
		for _, last := range lasts {
			longer := make([]int, 2*n)
			for _, place := range append(slices.Clone(places), last) {
				longer[place] = 1
			}
			lists = append(lists, longer)
		}
	}
	return lists
}

func TestGrayBalanced(t *testing.T) {
	for n := range 8 {
		lists, ok := impl.GrayBalanced(n)
		expectLists(t, fmt.Sprint("GrayBalanced ", n), lists, ok, plainGrayBalanced(n))
		for i := 1; i < len(lists); i++ {
			if countDifferences(placesOfOnes(lists[i-1]), placesOfOnes(lists[i])) != 1 {
				t.Errorf("GrayBalanced %d: %v and %v do not differ in the place of one 1", n, lists[i-1], lists[i])
			}
		}
		slices.SortFunc(lists, slices.Compare[[]int])
		expectLists(t, fmt.Sprint("GrayBalanced, sorted, ", n), lists, ok, sortedBalanced(n))
	}
}

func TestGrayBalancedOfFew(t *testing.T) {
	lists, ok := impl.GrayBalanced(1)
	expectLists(t, "GrayBalanced 1", lists, ok, [][]int{{1, 0}})
	lists, ok = impl.GrayBalanced(2)
	expectLists(t, "GrayBalanced 2", lists, ok, [][]int{{1, 0, 1, 0}, {1, 1, 0, 0}})
	lists, ok = impl.GrayBalanced(3)
	expectLists(t, "GrayBalanced 3", lists, ok, [][]int{
		{1, 0, 1, 0, 1, 0}, {1, 0, 1, 1, 0, 0},
		{1, 1, 0, 1, 0, 0}, {1, 1, 1, 0, 0, 0}, {1, 1, 0, 0, 1, 0},
	})
}
