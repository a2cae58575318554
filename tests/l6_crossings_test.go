package tests

import (
	"fmt"
	"slices"
	"testing"

	"loop.example/g01104/impl"
)

// plainCrossing tries all elements a < b < c < d.
func plainCrossing(list []int) bool {
	for d := range list {
		for c := range d {
			for b := range c {
				for a := range b {
					if list[a] == list[c] && list[b] == list[d] && list[a] != list[b] {
						return true
					}
				}
			}
		}
	}
	return false
}

// plainWordOf makes the word as it is told.
func plainWordOf(growth []int) []int {
	var w []int
	for x, block := range growth {
		if !slices.Contains(growth[:x], block) {
			for _, other := range growth {
				if other == block {
					w = append(w, 1)
				}
			}
		}
		w = append(w, 0)
	}
	return w
}

// expectCrossing reports whether there is a crossing.
func expectCrossing(t *testing.T, a []int) bool {
	t.Helper()
	crossing := plainCrossing(a)
	got, ok := impl.HasCrossing(a)
	expectFact(t, fmt.Sprint("HasCrossing ", a), got, ok, crossing)
	w, ok := impl.WordOfGrowth(a)
	if crossing {
		expectNoList(t, fmt.Sprint("WordOfGrowth ", a), w, ok)
		return true
	}
	expectList(t, fmt.Sprint("WordOfGrowth ", a), w, ok, plainWordOf(a))
	back, ok := impl.GrowthOfWord(plainWordOf(a))
	expectList(t, fmt.Sprint("GrowthOfWord ", w), back, ok, a)
	return false
}

func TestCrossings(t *testing.T) {
	for n := 1; n <= 8; n++ {
		without := 0
		for _, a := range sortedGrowths(n) {
			if !expectCrossing(t, a) {
				without++
			}
		}
		expectNumber(t, fmt.Sprint("growths without a crossing of ", n), without, true, catalanNumbers[n])
	}
}

func TestCrossingsOfMostElements(t *testing.T) {
	with, without := 0, 0
	for r := 0; r < bellNumbers[12]; r += 2003 {
		a, _ := impl.GrowthWith(12, r)
		if expectCrossing(t, a) {
			with++
		} else {
			without++
		}
	}
	if with == 0 || without == 0 {
		t.Errorf("%d growths with and %d without a crossing", with, without)
	}
	for _, a := range sortedGrowths(6) {
		doubled := make([]int, 0, 12)
		for _, block := range a {
			doubled = append(doubled, block, block)
		}
		expectCrossing(t, doubled)
		expectCrossing(t, append(slices.Clone(a), a...))
	}
}

func TestGrowthsOfAllWords(t *testing.T) {
	for n := 1; n <= 7; n++ {
		for _, w := range sortedBalanced(n) {
			expectGrowthOfWord(t, w)
		}
	}
	for r := 0; r < catalanNumbers[12]; r += 211 {
		w, _ := impl.BalancedWith(12, r)
		expectGrowthOfWord(t, w)
	}
}

func expectGrowthOfWord(t *testing.T, w []int) {
	t.Helper()
	a, ok := impl.GrowthOfWord(w)
	if !ok || !plainGrowth(a) || plainCrossing(a) || !slices.Equal(plainWordOf(a), w) {
		t.Errorf("GrowthOfWord %v: %v, %v", w, a, ok)
	}
}

func TestCrossingExamples(t *testing.T) {
	for _, c := range []struct {
		a, w []int
	}{
		{[]int{0, 0, 1}, []int{1, 1, 0, 0, 1, 0}},
		{[]int{0, 1, 0}, []int{1, 1, 0, 1, 0, 0}},
		{[]int{0, 1, 1, 0}, []int{1, 1, 0, 1, 1, 0, 0, 0}},
		{[]int{0, 1, 0, 2}, []int{1, 1, 0, 1, 0, 0, 1, 0}},
		{[]int{0, 1, 2, 1, 0, 0}, []int{1, 1, 1, 0, 1, 1, 0, 1, 0, 0, 0, 0}},
		{upTo(12), slices.Repeat([]int{1, 0}, 12)},
		{repeated(0, 12), append(repeated(1, 12), repeated(0, 12)...)},
	} {
		crossing, ok := impl.HasCrossing(c.a)
		expectFact(t, fmt.Sprint("HasCrossing ", c.a), crossing, ok, false)
		w, ok := impl.WordOfGrowth(c.a)
		expectList(t, fmt.Sprint("WordOfGrowth ", c.a), w, ok, c.w)
		a, ok := impl.GrowthOfWord(c.w)
		expectList(t, fmt.Sprint("GrowthOfWord ", c.w), a, ok, c.a)
	}
	for _, a := range [][]int{{0, 1, 0, 1}, {0, 1, 2, 0, 1}, {0, 1, 2, 1, 2}, {0, 0, 1, 2, 0, 2, 1}, {0, 1, 1, 0, 1}} {
		crossing, ok := impl.HasCrossing(a)
		expectFact(t, fmt.Sprint("HasCrossing ", a), crossing, ok, plainCrossing(a))
		w, ok := impl.WordOfGrowth(a)
		expectNoList(t, fmt.Sprint("WordOfGrowth ", a), w, ok)
	}
}
