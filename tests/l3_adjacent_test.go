package tests

import (
	"fmt"
	"slices"
	"testing"

	"loop.example/g01104/impl"
)

// firstAdjacent goes on from a path in all ways, the least combinations first, until all are in it.
func firstAdjacent(sets, path [][]int) [][]int {
	if len(path) == len(sets) {
		return path
	}
	for _, list := range sets {
		_, near := plainExchange(path[len(path)-1], list)
		isOn := func(other []int) bool { return slices.Equal(other, list) }
		if !near || slices.ContainsFunc(path, isOn) {
			continue
		}
		if found := firstAdjacent(sets, append(slices.Clone(path), list)); found != nil {
			return found
		}
	}
	return nil
}

func TestAdjacentHalves(t *testing.T) {
	for n := range impl.MaxItems + 1 {
		for k := range n + 1 {
			var counts [2]int
			for _, list := range subsetsOf(n, k) {
				sum := 0
				for _, x := range list {
					sum += x
				}
				counts[sum%2]++
			}
			even, odd, ok := impl.AdjacentHalves(n, k)
			expectPair(t, fmt.Sprint("AdjacentHalves ", n, k), even, odd, ok, counts[0], counts[1])
		}
	}
	even, odd, ok := impl.AdjacentHalves(4, 2)
	expectPair(t, "AdjacentHalves 4 2", even, odd, ok, 2, 4)
	even, odd, ok = impl.AdjacentHalves(0, 0)
	expectPair(t, "AdjacentHalves 0 0", even, odd, ok, 1, 0)
	for _, c := range badChoices {
		even, odd, ok := impl.AdjacentHalves(c[0], c[1])
		expectNoPair(t, fmt.Sprint("AdjacentHalves ", c), even, odd, ok)
	}
}

func TestAdjacentLists(t *testing.T) {
	for n := range 7 {
		for k := range n + 1 {
			name := fmt.Sprint("AdjacentList ", n, k)
			want := firstAdjacent(sortedSubsets(n, k), [][]int{upTo(k)})
			all, ok := impl.AdjacentList(n, k)
			if want == nil {
				expectNoLists(t, name, all, ok)
				continue
			}
			expectLists(t, name, all, ok, want)
			expectAdjacent(t, n, k, all, true)
			if even, odd, ok := impl.AdjacentHalves(n, k); !ok || even-odd > 1 || odd-even > 1 {
				t.Errorf("AdjacentHalves %d %d: %d and %d refuse a list that there is", n, k, even, odd)
			}
		}
	}
}

func TestSmallAdjacentLists(t *testing.T) {
	for _, c := range []struct {
		n, k int
		want [][]int
	}{
		{0, 0, [][]int{{}}}, {6, 0, [][]int{{}}}, {6, 6, [][]int{upTo(6)}}, {3, 1, [][]int{{0}, {1}, {2}}},
		{6, 1, [][]int{{0}, {1}, {2}, {3}, {4}, {5}}}, {4, 3, [][]int{{0, 1, 2}, {0, 1, 3}, {0, 2, 3}, {1, 2, 3}}},
	} {
		all, ok := impl.AdjacentList(c.n, c.k)
		expectLists(t, fmt.Sprint("AdjacentList ", c.n, c.k), all, ok, c.want)
	}
}

func TestAdjacentListOfMostItems(t *testing.T) {
	all, ok := impl.AdjacentList(6, 3)
	if !ok || len(all) != 20 {
		t.Fatalf("AdjacentList 6 3: %v, %v", all, ok)
	}
	expectList(t, "the beginning of AdjacentList 6 3", all[0], ok, []int{0, 1, 2})
	expectList(t, "the end of AdjacentList 6 3", all[19], ok, []int{3, 4, 5})
	expectAdjacent(t, 6, 3, all, true)
	expectExchanges(t, 6, 3, all, true, false)
}

func TestRefusedAdjacentLists(t *testing.T) {
	for _, c := range append([][2]int{{4, 2}, {5, 2}, {5, 3}, {6, 2}, {6, 4}, {7, 0}, {7, 1}, {7, 7}, {8, 1}, {12, 0}, {12, 6}, {12, 12}}, badChoices...) {
		all, ok := impl.AdjacentList(c[0], c[1])
		expectNoLists(t, fmt.Sprint("AdjacentList ", c), all, ok)
	}
}

func TestAdjacentListsOfManyItems(t *testing.T) {
	for n := 1; n <= impl.MaxItems; n++ {
		var single [][]int
		for x := range n {
			single = append(single, []int{x})
		}
		expectAdjacent(t, n, 1, single, true)
		others, _ := impl.ComplementsOf(n, single)
		expectAdjacent(t, n, n-1, others, true)
		if n > 2 {
			single[0], single[1] = single[1], single[0]
			expectAdjacent(t, n, 1, single, false)
			expectExchanges(t, n, 1, single, true, true)
		}
	}
	expectAdjacent(t, 12, 6, elementsOfAll(doorList(12, 6)), false)
}
