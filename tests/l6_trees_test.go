package tests

import (
	"fmt"
	"math"
	"slices"
	"testing"

	"loop.example/g01104/impl"
)

// zeroOf returns the place of the 0 that belongs to the 1 at a place: there are as many ones as zeros up to it for the first time.
func zeroOf(w []int, place int) int {
	open := 0
	for at := place; ; at++ {
		open += 2*w[at] - 1
		if open == 0 {
			return at
		}
	}
}

// plainParents looks back from each 1 for the last one whose 0 is behind it.
func plainParents(w []int) []int {
	var parents []int
	places := placesOfOnes(w)
	for node, place := range places {
		parent := node - 1
		for parent >= 0 && zeroOf(w, places[parent]) < place {
			parent--
		}
		parents = append(parents, parent)
	}
	return parents
}

// plainParentsList climbs from the node before each node up to its parent.
func plainParentsList(parents []int) bool {
	for node, parent := range parents {
		above := node - 1
		for above != parent && above >= 0 {
			above = parents[above]
		}
		if above != parent {
			return false
		}
	}
	return len(parents) <= 12
}

func expectTree(t *testing.T, w, parents []int) {
	t.Helper()
	got, ok := impl.ParentsOf(w)
	expectList(t, fmt.Sprint("ParentsOf ", w), got, ok, parents)
	word, ok := impl.WordOfParents(parents)
	expectList(t, fmt.Sprint("WordOfParents ", parents), word, ok, w)
}

func TestTrees(t *testing.T) {
	for n := range 8 {
		for _, w := range sortedBalanced(n) {
			expectTree(t, w, plainParents(w))
		}
	}
	for r := 0; r < catalanNumbers[12]; r += 211 {
		w, _ := impl.BalancedWith(12, r)
		expectTree(t, w, plainParents(w))
	}
}

func TestTreeExamples(t *testing.T) {
	expectTree(t, []int{1, 1, 0, 0, 1, 0}, []int{-1, 0, -1})
	expectTree(t, []int{1, 1, 0, 1, 1, 0, 0, 1, 0, 0, 1, 0}, []int{-1, 0, 0, 2, 0, -1})
	expectTree(t, slices.Repeat([]int{1, 0}, 12), repeated(-1, 12))
	expectTree(t, append(repeated(1, 12), repeated(0, 12)...), append([]int{-1}, upTo(11)...))
	expectTree(t, slices.Concat([]int{1}, slices.Repeat([]int{1, 0}, 11), []int{0}), append([]int{-1}, repeated(0, 11)...))
}

// TestAnyParents tries each list of small numbers.
func TestAnyParents(t *testing.T) {
	for n := range 6 {
		found := 0
		forChoices([]int{-2, -1, 0, 1, 2, 3, 4, 5}, n, nil, func(parents []int) {
			w, ok := impl.WordOfParents(parents)
			if !plainParentsList(parents) {
				expectNoList(t, fmt.Sprint("WordOfParents ", parents), w, ok)
				return
			}
			found++
			if !ok || !plainBalanced(w) || !slices.Equal(plainParents(w), parents) {
				t.Errorf("WordOfParents %v: %v, %v", parents, w, ok)
			}
		})
		expectNumber(t, fmt.Sprint("parents lists of ", n), found, true, catalanNumbers[n])
	}
}

func TestInvalidParents(t *testing.T) {
	for _, parents := range [][]int{
		{0}, {1}, {-2}, {math.MinInt}, {math.MaxInt}, {-1, 1}, {-1, 2}, {-1, -2}, {-1, math.MinInt}, {-1, -1, 0}, {-1, 0, -1, 0}, {-1, 0, 0, 1}, {-1, 0, 1, 0, 2}, {-1, 0, 3},
		repeated(-1, 13), append([]int{-1}, upTo(12)...), upTo(12), append(repeated(-1, 11), 0), append(repeated(-1, 11), 11), repeated(-1, 5000),
	} {
		w, ok := impl.WordOfParents(parents)
		expectNoList(t, fmt.Sprint("WordOfParents ", parents), w, ok)
	}
}
