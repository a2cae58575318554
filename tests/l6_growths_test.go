package tests

import (
	"fmt"
	"math"
	"slices"
	"testing"

	"loop.example/g01104/impl"
)

// bellNumbers are how many partitions of a set there are, from no elements on.
var bellNumbers = []int{1, 1, 2, 5, 15, 52, 203, 877, 4140, 21147, 115975, 678570, 4213597}

var badGrowths = [][]int{
	nil, {}, {1}, {-1}, {math.MinInt}, {math.MaxInt}, {0, 2}, {0, -1}, {1, 0}, {0, 0, 2}, {0, 1, 3}, {0, 1, 0, 3}, {0, 1, -1}, {0, math.MaxInt}, {0, math.MinInt},
	upTo(13), repeated(0, 13), append(upTo(11), 12), repeated(0, 5000), upTo(5000),
}

// plainGrowth checks a list as growths are defined.
func plainGrowth(a []int) bool {
	if len(a) < 1 || len(a) > 12 || a[0] != 0 {
		return false
	}
	for i := 1; i < len(a); i++ {
		if a[i] < 0 || a[i] > slices.Max(a[:i])+1 {
			return false
		}
	}
	return true
}

// plainPartitions puts each element into each block, or into a new one, of the partitions without it.
func plainPartitions(n int) [][][]int {
	if n == 0 {
		return [][][]int{nil}
	}
	var all [][][]int
	for _, blocks := range plainPartitions(n - 1) {
		for i := range blocks {
			more := cloneAll(blocks)
			more[i] = append(more[i], n-1)
			all = append(all, more)
		}
		all = append(all, append(cloneAll(blocks), []int{n - 1}))
	}
	return all
}

// numbersOfBlocks tells for each element its block.
func numbersOfBlocks(n int, blocks [][]int) []int {
	numbers := make([]int, n)
	for i, block := range blocks {
		for _, x := range block {
			numbers[x] = i
		}
	}
	return numbers
}

// sortedGrowths are those of all partitions.
func sortedGrowths(n int) [][]int {
	var all [][]int
	for _, blocks := range plainPartitions(n) {
		all = append(all, numbersOfBlocks(n, blocks))
	}
	slices.SortFunc(all, slices.Compare[[]int])
	return all
}

// growthBehind makes the last number greater that may be, and those behind it 0. It returns nil for the last growth.
func growthBehind(a []int) []int {
	for i := len(a) - 1; i > 0; i-- {
		next := append(slices.Clone(a[:i]), a[i]+1)
		if plainGrowth(next) {
			return append(next, repeated(0, len(a)-1-i)...)
		}
	}
	return nil
}

func expectGrowth(t *testing.T, a []int, want bool) {
	t.Helper()
	if impl.IsGrowth(a) != want {
		t.Errorf("IsGrowth %v is not %v", a, want)
	}
}

func expectRankOfGrowth(t *testing.T, a []int, r int) {
	t.Helper()
	expectGrowth(t, a, true)
	rank, ok := impl.RankGrowth(a)
	expectNumber(t, fmt.Sprint("RankGrowth ", a), rank, ok, r)
	list, ok := impl.GrowthWith(len(a), r)
	expectList(t, fmt.Sprint("GrowthWith ", len(a), r), list, ok, a)
}

func expectNoGrowthWith(t *testing.T, n, rank int) {
	t.Helper()
	list, ok := impl.GrowthWith(n, rank)
	expectNoList(t, fmt.Sprint("GrowthWith ", n, rank), list, ok)
}

func TestIsGrowth(t *testing.T) {
	for n := range 6 {
		found := 0
		forChoices([]int{-1, 0, 1, 2, 3, 4, 5}, n, nil, func(a []int) {
			expectGrowth(t, a, plainGrowth(a))
			if impl.IsGrowth(a) {
				found++
			}
		})
		if n > 0 && found != bellNumbers[n] {
			t.Errorf("%d growths of %d elements", found, n)
		}
	}
	for _, a := range badGrowths {
		expectGrowth(t, a, false)
	}
	for _, a := range [][]int{{0}, upTo(12), repeated(0, 12), append(upTo(11), 0), append(repeated(0, 11), 1)} {
		expectGrowth(t, a, true)
	}
}

func TestGrowthsInOrder(t *testing.T) {
	for n := 1; n <= 8; n++ {
		all := sortedGrowths(n)
		count, ok := impl.CountGrowths(n)
		expectNumber(t, fmt.Sprint("CountGrowths ", n), count, ok, len(all))
		for r, a := range all {
			expectRankOfGrowth(t, a, r)
		}
	}
}

func TestNumbersOfGrowths(t *testing.T) {
	for n := 1; n <= 12; n++ {
		count, ok := impl.CountGrowths(n)
		expectNumber(t, fmt.Sprint("CountGrowths ", n), count, ok, bellNumbers[n])
		expectRankOfGrowth(t, repeated(0, n), 0)
		expectRankOfGrowth(t, upTo(n), bellNumbers[n]-1)
		for _, rank := range []int{math.MinInt, -1, bellNumbers[n], bellNumbers[n] + 1, math.MaxInt} {
			expectNoGrowthWith(t, n, rank)
		}
	}
}

// TestLongGrowths looks at some ranks, each with the next one.
func TestLongGrowths(t *testing.T) {
	for n := 9; n <= 12; n++ {
		for r := 0; r+1 < bellNumbers[n]; r += bellNumbers[n]/150 + 1 {
			a, ok := impl.GrowthWith(n, r)
			if !ok || !plainGrowth(a) {
				t.Errorf("GrowthWith %d %d: %v, %v", n, r, a, ok)
				continue
			}
			expectRankOfGrowth(t, a, r)
			expectRankOfGrowth(t, growthBehind(a), r+1)
		}
	}
}

func TestOneElement(t *testing.T) {
	count, ok := impl.CountGrowths(1)
	expectNumber(t, "CountGrowths 1", count, ok, 1)
	expectRankOfGrowth(t, []int{0}, 0)
	expectNoGrowthWith(t, 1, 1)
	lists, ok := impl.GrayGrowths(1)
	expectLists(t, "GrayGrowths 1", lists, ok, [][]int{{0}})
	blocks, ok := impl.BlocksOf([]int{0})
	expectLists(t, "BlocksOf 0", blocks, ok, [][]int{{0}})
	a, ok := impl.GrowthOf([][]int{{0}})
	expectList(t, "GrowthOf 0", a, ok, []int{0})
	crossing, ok := impl.HasCrossing([]int{0})
	expectFact(t, "HasCrossing 0", crossing, ok, false)
	w, ok := impl.WordOfGrowth([]int{0})
	expectList(t, "WordOfGrowth 0", w, ok, []int{1, 0})
	a, ok = impl.GrowthOfWord([]int{1, 0})
	expectList(t, "GrowthOfWord 1 0", a, ok, []int{0})
}

func TestInvalidGrowths(t *testing.T) {
	for _, a := range badGrowths {
		rank, ok := impl.RankGrowth(a)
		expectNoNumber(t, fmt.Sprint("RankGrowth ", a), rank, ok)
		blocks, ok := impl.BlocksOf(a)
		expectNoLists(t, fmt.Sprint("BlocksOf ", a), blocks, ok)
		crossing, ok := impl.HasCrossing(a)
		expectNoFact(t, fmt.Sprint("HasCrossing ", a), crossing, ok)
		w, ok := impl.WordOfGrowth(a)
		expectNoList(t, fmt.Sprint("WordOfGrowth ", a), w, ok)
	}
	for _, n := range []int{math.MinInt, -1, 0, 13, math.MaxInt} {
		count, ok := impl.CountGrowths(n)
		expectNoNumber(t, fmt.Sprint("CountGrowths ", n), count, ok)
		expectNoGrowthWith(t, n, 0)
	}
	for _, n := range []int{math.MinInt, -1, 0, 8, 12, math.MaxInt} {
		lists, ok := impl.GrayGrowths(n)
		expectNoLists(t, fmt.Sprint("GrayGrowths ", n), lists, ok)
	}
}

// plainGrayGrowths makes the list as it is told.
func plainGrayGrowths(n int) [][]int {
	if n == 1 {
		return [][]int{{0}}
	}
	var lists [][]int
	for i, a := range plainGrayGrowths(n - 1) {
		m := slices.Max(a)
		ends := append([]int{0}, downFrom(m + 2)[:m+1]...)
		if i%2 == 1 {
			ends = append(upTo(m + 2)[1:], 0)
		}
		for _, x := range ends {
			lists = append(lists, append(slices.Clone(a), x))
		}
	}
	return lists
}

func countDifferences(a, b []int) int {
	count := 0
	for i := range a {
		if a[i] != b[i] {
			count++
		}
	}
	return count
}

func TestGrayGrowths(t *testing.T) {
	for n := 1; n <= 7; n++ {
		lists, ok := impl.GrayGrowths(n)
		expectLists(t, fmt.Sprint("GrayGrowths ", n), lists, ok, plainGrayGrowths(n))
		for i := 1; i < len(lists); i++ {
			if countDifferences(lists[i-1], lists[i]) != 1 {
				t.Errorf("GrayGrowths %d: %v and %v do not differ in one number", n, lists[i-1], lists[i])
			}
		}
		slices.SortFunc(lists, slices.Compare[[]int])
		expectLists(t, fmt.Sprint("GrayGrowths, sorted, ", n), lists, ok, sortedGrowths(n))
	}
}

func TestGrayGrowthsOfFew(t *testing.T) {
	lists, ok := impl.GrayGrowths(3)
	expectLists(t, "GrayGrowths 3", lists, ok, [][]int{{0, 0, 0}, {0, 0, 1}, {0, 1, 1}, {0, 1, 2}, {0, 1, 0}})
	lists, ok = impl.GrayGrowths(4)
	expectLists(t, "GrayGrowths 4", lists, ok, [][]int{
		{0, 0, 0, 0}, {0, 0, 0, 1},
		{0, 0, 1, 1}, {0, 0, 1, 2}, {0, 0, 1, 0},
		{0, 1, 1, 0}, {0, 1, 1, 2}, {0, 1, 1, 1},
		{0, 1, 2, 1}, {0, 1, 2, 2}, {0, 1, 2, 3}, {0, 1, 2, 0},
		{0, 1, 0, 0}, {0, 1, 0, 2}, {0, 1, 0, 1},
	})
}
