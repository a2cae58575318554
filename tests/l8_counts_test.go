package tests

import (
	"fmt"
	"math/big"
	"slices"
	"testing"

	"loop.example/g01104/impl"
)

// listedSizes are all n and k with at most 40 de Bruijn words.
var listedSizes = [][2]int{{1, 2}, {2, 2}, {3, 2}, {4, 2}, {1, 3}, {2, 3}, {1, 4}, {1, 5}}

// sortedBruijn tries all words that begin with n zeros.
func sortedBruijn(n, k int) [][]int {
	var found [][]int
	forChoices(upTo(k), plainPower(k, n)-n, repeated(0, n), func(w []int) {
		if plainBruijn(w, n, k) {
			found = append(found, w)
		}
	})
	return found
}

// plainCount tells that (k!)^(k^(n-1)) / k^n is too large as the document's limit has it.
func plainCount(n, k int) (int, bool) {
	factorial := new(big.Int).MulRange(1, int64(k))
	count := new(big.Int).Exp(factorial, big.NewInt(int64(plainPower(k, n-1))), nil)
	count.Div(count, big.NewInt(int64(plainPower(k, n))))
	if count.Cmp(big.NewInt(1000000000)) > 0 {
		return 0, false
	}
	return int(count.Int64()), true
}

func expectNoCount(t *testing.T, n, k int) {
	t.Helper()
	count, ok := impl.CountBruijn(n, k)
	expectNoNumber(t, fmt.Sprint("CountBruijn ", n, k), count, ok)
}

func TestAllBruijn(t *testing.T) {
	for _, sizes := range listedSizes {
		n, k := sizes[0], sizes[1]
		want := sortedBruijn(n, k)
		words, ok := impl.AllBruijn(n, k)
		expectLists(t, fmt.Sprint("AllBruijn ", n, k), words, ok, want)
		count, ok := impl.CountBruijn(n, k)
		expectNumber(t, fmt.Sprint("CountBruijn ", n, k), count, ok, len(want))
	}
}

func TestNamedAllBruijn(t *testing.T) {
	words, ok := impl.AllBruijn(1, 2)
	expectLists(t, "AllBruijn 1 2", words, ok, [][]int{{0, 1}})
	words, ok = impl.AllBruijn(2, 2)
	expectLists(t, "AllBruijn 2 2", words, ok, [][]int{{0, 0, 1, 1}})
	words, ok = impl.AllBruijn(3, 2)
	expectLists(t, "AllBruijn 3 2", words, ok, [][]int{{0, 0, 0, 1, 0, 1, 1, 1}, {0, 0, 0, 1, 1, 1, 0, 1}})
	words, ok = impl.AllBruijn(1, 3)
	expectLists(t, "AllBruijn 1 3", words, ok, [][]int{{0, 1, 2}, {0, 2, 1}})
	for sizes, count := range map[[2]int]int{{4, 2}: 16, {2, 3}: 24, {1, 4}: 6, {1, 5}: 24} {
		words, ok = impl.AllBruijn(sizes[0], sizes[1])
		expectNumber(t, fmt.Sprint("words of AllBruijn ", sizes), len(words), ok, count)
	}
}

func TestTooManyBruijn(t *testing.T) {
	forBruijnSizes(func(n, k int) {
		if !slices.Contains(listedSizes, [2]int{n, k}) {
			words, ok := impl.AllBruijn(n, k)
			expectNoLists(t, fmt.Sprint("AllBruijn ", n, k), words, ok)
		}
	})
}

func TestCountBruijn(t *testing.T) {
	forBruijnSizes(func(n, k int) {
		if want, few := plainCount(n, k); few {
			count, ok := impl.CountBruijn(n, k)
			expectNumber(t, fmt.Sprint("CountBruijn ", n, k), count, ok, want)
		} else {
			expectNoCount(t, n, k)
		}
	})
	for sizes, want := range map[[2]int]int{{4, 2}: 16, {5, 2}: 2048, {6, 2}: 67108864, {3, 3}: 373248, {2, 4}: 20736, {2, 5}: 995328000, {1, 6}: 120} {
		count, ok := impl.CountBruijn(sizes[0], sizes[1])
		expectNumber(t, fmt.Sprint("CountBruijn ", sizes), count, ok, want)
	}
	for _, sizes := range [][2]int{{7, 2}, {10, 2}, {4, 3}, {3, 4}, {5, 4}, {3, 5}, {2, 6}, {3, 6}} {
		expectNoCount(t, sizes[0], sizes[1])
	}
}

func TestCountsWithoutSizes(t *testing.T) {
	for _, sizes := range noBruijnSizes {
		expectNoCount(t, sizes[0], sizes[1])
		words, ok := impl.AllBruijn(sizes[0], sizes[1])
		expectNoLists(t, fmt.Sprint("AllBruijn ", sizes), words, ok)
	}
}
