package tests

import (
	"fmt"
	"math"
	"testing"

	"loop.example/g01104/impl"
)

// doorList makes the revolving list as it is defined, from sets of bits.
func doorList(n, k int) []int {
	if k == 0 || k == n {
		return []int{1<<k - 1}
	}
	sets := doorList(n-1, k)
	behind := doorList(n-1, k-1)
	for i := len(behind) - 1; i >= 0; i-- {
		sets = append(sets, behind[i]|1<<(n-1))
	}
	return sets
}

func setOf(list []int) int {
	set := 0
	for _, x := range list {
		set |= 1 << x
	}
	return set
}

func elementsOf(set int) []int {
	var list []int
	for x := range impl.MaxItems {
		if set>>x&1 == 1 {
			list = append(list, x)
		}
	}
	return list
}

func elementsOfAll(sets []int) [][]int {
	var lists [][]int
	for _, set := range sets {
		lists = append(lists, elementsOf(set))
	}
	return lists
}

// badChoices are numbers n and k that do not fit.
var badChoices = [][2]int{
	{-1, -1}, {-1, 0}, {0, 1}, {0, -1}, {4, 5}, {4, -1}, {11, 12}, {12, 13}, {13, 0}, {13, 13}, {13, 1}, {64, 2},
	{math.MinInt, math.MinInt}, {math.MinInt, 0}, {math.MaxInt, 0}, {math.MaxInt, math.MaxInt}, {12, math.MinInt}, {12, math.MaxInt},
}

func TestRevolvingExample(t *testing.T) {
	all, ok := impl.RevolvingList(4, 2)
	expectLists(t, "RevolvingList 4 2", all, ok, [][]int{{0, 1}, {1, 2}, {0, 2}, {2, 3}, {1, 3}, {0, 3}})
}

func TestRevolvingList(t *testing.T) {
	for n := range impl.MaxItems + 1 {
		for k := range n + 1 {
			want := elementsOfAll(doorList(n, k))
			all, ok := impl.RevolvingList(n, k)
			expectLists(t, fmt.Sprint("RevolvingList ", n, k), all, ok, want)
			expectExchanges(t, n, k, all, true, true)
			for r, list := range want {
				at, ok := impl.RevolvingAt(n, k, r)
				expectList(t, fmt.Sprint("RevolvingAt ", n, k, r), at, ok, list)
				name := fmt.Sprint(n, list)
				rank, ok := impl.RevolvingRank(n, list)
				expectNumber(t, "RevolvingRank "+name, rank, ok, r)
				next, ok := impl.NextRevolving(n, list)
				if r+1 < len(want) {
					expectList(t, "NextRevolving "+name, next, ok, want[r+1])
				} else {
					expectNoList(t, "NextRevolving "+name, next, ok)
				}
			}
			for _, r := range []int{math.MinInt, -1, len(want), math.MaxInt} {
				at, ok := impl.RevolvingAt(n, k, r)
				expectNoList(t, fmt.Sprint("RevolvingAt ", n, k, r), at, ok)
			}
		}
	}
}

func TestOneCombinationAlone(t *testing.T) {
	for n := range impl.MaxItems + 1 {
		for _, k := range []int{0, n} {
			all, ok := impl.RevolvingList(n, k)
			expectLists(t, fmt.Sprint("RevolvingList ", n, k), all, ok, [][]int{upTo(k)})
			next, ok := impl.NextRevolving(n, upTo(k))
			expectNoList(t, fmt.Sprint("NextRevolving ", n, upTo(k)), next, ok)
			expectExchanges(t, n, k, [][]int{upTo(k)}, true, true)
			expectAdjacent(t, n, k, [][]int{upTo(k)}, true)
			expectExchanges(t, n, k, [][]int{upTo(k), upTo(k)}, false, false)
			expectExchanges(t, n, k, nil, false, false)
		}
	}
	rank, ok := impl.RevolvingRank(0, nil)
	expectNumber(t, "RevolvingRank of none", rank, ok, 0)
	at, ok := impl.RevolvingAt(0, 0, 0)
	expectList(t, "RevolvingAt of none", at, ok, nil)
}

func TestInvalidRevolving(t *testing.T) {
	for _, c := range badChoices {
		all, ok := impl.RevolvingList(c[0], c[1])
		expectNoLists(t, fmt.Sprint("RevolvingList ", c), all, ok)
		at, ok := impl.RevolvingAt(c[0], c[1], 0)
		expectNoList(t, fmt.Sprint("RevolvingAt ", c), at, ok)
	}
	for _, c := range badCombinations {
		rank, ok := impl.RevolvingRank(c.n, c.list)
		expectNoNumber(t, fmt.Sprint("RevolvingRank ", c), rank, ok)
		next, ok := impl.NextRevolving(c.n, c.list)
		expectNoList(t, fmt.Sprint("NextRevolving ", c), next, ok)
	}
}
