package tests

import (
	"math"
	"slices"
	"testing"

	"loop.example/g01104/impl"
)

// superCalls are the functions of chapter 9 without an argument that is a torus; ok stands last in each result.
var superCalls = []call{
	{"IsPairCycle", 1, 1, func(n []int, l [][]int) []any { x, ok := impl.IsPairCycle(n[0], l[0]); return []any{x, ok} }},
	{"PairCycle", 1, 0, func(n []int, _ [][]int) []any { x, ok := impl.PairCycle(n[0]); return []any{x, ok} }},
	{"PairPlace from 0", 2, 1, func(n []int, l [][]int) []any { x, ok := impl.PairPlace(n[0], l[0], 0, n[1]); return []any{x, ok} }},
	{"PairPlace to 1", 2, 1, func(n []int, l [][]int) []any { x, ok := impl.PairPlace(n[0], l[0], n[1], 1); return []any{x, ok} }},
	{"PairPlace of 5", 2, 1, func(n []int, l [][]int) []any { x, ok := impl.PairPlace(5, l[0], n[0], n[1]); return []any{x, ok} }},
	{"OrderOf", 0, 1, func(_ []int, l [][]int) []any { x, ok := impl.OrderOf(l[0]); return []any{x, ok} }},
	{"IsOrderCycle", 1, 1, func(n []int, l [][]int) []any { x, ok := impl.IsOrderCycle(n[0], l[0]); return []any{x, ok} }},
	{"OrderCycle", 1, 0, func(n []int, _ [][]int) []any { x, ok := impl.OrderCycle(n[0]); return []any{x, ok} }},
	{"IsSuper", 1, 1, func(n []int, l [][]int) []any { x, ok := impl.IsSuper(n[0], l[0]); return []any{x, ok} }},
	{"RanksIn", 1, 1, func(n []int, l [][]int) []any { x, ok := impl.RanksIn(n[0], l[0]); return []any{x, ok} }},
	{"WastedIn", 1, 1, func(n []int, l [][]int) []any { x, ok := impl.WastedIn(n[0], l[0]); return []any{x, ok} }},
	{"SuperOf", 1, 0, func(n []int, _ [][]int) []any { x, ok := impl.SuperOf(n[0]); return []any{x, ok} }},
	{"SuperLength", 1, 0, func(n []int, _ [][]int) []any { x, ok := impl.SuperLength(n[0]); return []any{x, ok} }},
	{"SuperBound", 1, 0, func(n []int, _ [][]int) []any { x, ok := impl.SuperBound(n[0]); return []any{x, ok} }},
	{"ShortestSuper", 1, 0, func(n []int, _ [][]int) []any { x, ok := impl.ShortestSuper(n[0]); return []any{x, ok} }},
	{"FirstTorus", 1, 0, func(n []int, _ [][]int) []any { x, ok := impl.FirstTorus(n[0]); return []any{x.Rows, ok} }},
}

var torusCalls = []tableCall{
	{"IsTorus", 0, 0, func(_ []int, _, rows [][]int) []any {
		x, ok := impl.IsTorus(impl.Torus{Rows: rows})
		return []any{x, ok}
	}},
	{"TorusPlace", 0, 1, func(_ []int, l, rows [][]int) []any {
		i, j, ok := impl.TorusPlace(impl.Torus{Rows: rows}, l[0])
		return []any{i, j, ok}
	}},
	{"TurnTorus", 2, 0, func(n []int, _, rows [][]int) []any {
		x, ok := impl.TurnTorus(impl.Torus{Rows: rows}, n[0], n[1])
		return []any{x.Rows, ok}
	}},
}

// superSizes are sizes and numbers of words, and some that are none.
var superSizes = []int{math.MinInt, -1, 0, 1, 2, 3, 4, 5, 6, 7, 8, 9, 10, 11, 12, 16, 17, math.MaxInt}

// argumentSuperWords are some words of each kind, and some lists that are none.
func argumentSuperWords() [][]int {
	words := slices.Concat(noSuperWords, wordsOf(1, 4), wordsOf(2, 4), wordsOf(3, 3), [][]int{
		{0, 1, 2, 0, 3, 1, 4, 2, 3, 4}, {4, 3, 2, 4, 1, 3, 0, 2, 1, 0}, {0, 1, 2, 0, 3, 1, 4, 2, 4, 3}, {0, 1, 2, 0, 3, 2}, {3, 7, 11, 3, 0, 11}, orderCycleOf4, repeated(11, 200), slices.Repeat(upTo(5), 40),
	})
	for n := 2; n <= 5; n++ {
		words = append(words, digitsOf(plainSuperText(n)), plainLeastPairs(2*n+1))
	}
	return words
}

func TestSuperArguments(t *testing.T) {
	words := argumentSuperWords()
	for _, c := range superCalls {
		t.Run(c.name, func(t *testing.T) {
			checkArguments(t, c)
			forChoices(superSizes, c.numbers, nil, func(numbers []int) {
				forChoices(words, c.lists, nil, func(lists [][]int) { checkCall(t, c, numbers, lists) })
			})
		})
	}
}

func TestTorusArguments(t *testing.T) {
	for _, c := range torusCalls {
		t.Run(c.name, func(t *testing.T) {
			checkTableArguments(t, c)
			for _, rows := range someTori() {
				checkTable(t, c, rows)
			}
			for _, rows := range noTori {
				checkTable(t, c, rows)
			}
		})
	}
}

func TestSuperResultsEnd(t *testing.T) {
	checkResultsEnd(t, superCalls, superSizes, argumentSuperWords())
	for _, rows := range someTori() {
		turned, ok := impl.TurnTorus(impl.Torus{Rows: rows}, len(rows)-1, 0)
		if !ok || hasSpareCapacity([]any{turned.Rows}) {
			t.Errorf("the torus %v is turned to one with spare capacity, or not at all", rows)
		}
	}
}
