package tests

import (
	"math"
	"slices"
	"testing"

	"loop.example/g01104/impl"
)

// cycleCalls are the functions of chapter 8; ok stands last in each result.
var cycleCalls = []call{
	{"IsCycle", 1, 1, func(n []int, l [][]int) []any { return []any{impl.IsCycle(l[0], n[0])} }},
	{"WindowAt", 2, 1, func(n []int, l [][]int) []any { x, ok := impl.WindowAt(l[0], n[0], n[1]); return []any{x, ok} }},
	{"PlacesOf", 0, 2, func(_ []int, l [][]int) []any { x, ok := impl.PlacesOf(l[0], l[1]); return []any{x, ok} }},
	{"IsBruijn", 2, 1, func(n []int, l [][]int) []any { x, ok := impl.IsBruijn(l[0], n[0], n[1]); return []any{x, ok} }},
	{"LeastBruijn", 2, 0, func(n []int, _ [][]int) []any { x, ok := impl.LeastBruijn(n[0], n[1]); return []any{x, ok} }},
	{"GreedyBruijn", 2, 0, func(n []int, _ [][]int) []any { x, ok := impl.GreedyBruijn(n[0], n[1]); return []any{x, ok} }},
	{"EulerBruijn", 2, 0, func(n []int, _ [][]int) []any { x, ok := impl.EulerBruijn(n[0], n[1]); return []any{x, ok} }},
	{"CountBruijn", 2, 0, func(n []int, _ [][]int) []any { x, ok := impl.CountBruijn(n[0], n[1]); return []any{x, ok} }},
	{"AllBruijn", 2, 0, func(n []int, _ [][]int) []any { x, ok := impl.AllBruijn(n[0], n[1]); return []any{x, ok} }},
	{"WithoutZero", 2, 1, func(n []int, l [][]int) []any { x, ok := impl.WithoutZero(l[0], n[0], n[1]); return []any{x, ok} }},
	{"WithZero", 2, 1, func(n []int, l [][]int) []any { x, ok := impl.WithZero(l[0], n[0], n[1]); return []any{x, ok} }},
	{"RegisterWord", 1, 1, func(n []int, l [][]int) []any { x, ok := impl.RegisterWord(l[0], n[0]); return []any{x, ok} }},
	{"IsFullRegister", 1, 1, func(n []int, l [][]int) []any { x, ok := impl.IsFullRegister(l[0], n[0]); return []any{x, ok} }},
	{"SpreadOf", 1, 1, func(n []int, l [][]int) []any { x, ok := impl.SpreadOf(l[0], n[0]); return []any{x, ok} }},
	{"SafeLength", 0, 1, func(_ []int, l [][]int) []any { x, ok := impl.SafeLength(l[0]); return []any{x, ok} }},
	{"MendWindow", 0, 2, func(_ []int, l [][]int) []any {
		place, x, ok := impl.MendWindow(l[0], l[1])
		return []any{place, x, ok}
	}},
}

// cycleNumbers are lengths, numbers of letters and places, and some that are none.
var cycleNumbers = []int{math.MinInt, -1, 0, 1, 2, 3, 4, 5, 6, 7, 10, 11, 63, 64, 65, 1023, 1024, 1025, math.MaxInt}

// argumentCycles are some cycles, windows and taps, and some lists that are none.
func argumentCycles() [][]int {
	cycles := slices.Concat(noCycles, wordsOf(1, 6), wordsOf(2, 3), wordsOf(3, 2), [][]int{
		{0, 1, 1}, {0, 0, 1, 2}, {0, 2, 3}, {0, 1, 2, 3, 4, 5, 6, 7, 8, 9}, {0, 3}, {0, 0, 1, 1}, {1, 0, 0, 1}, {0, 1, 1, 0}, {3, 2, 1}, {1, 0, 2, 1, 1, 2, 2, 0},
		append(repeated(0, 31), 1), append(repeated(0, 62), 1, 2), append(repeated(0, 63), 1), append(repeated(0, 64), 1), repeated(3, 1024), append(repeated(0, 1023), 1),
	})
	for _, sizes := range [][2]int{{10, 2}, {3, 2}, {5, 4}, {2, 3}, {1, 6}} {
		w := plainGreedyWord(sizes[0], sizes[1])
		cycles = append(cycles, w, w[1:], plainWindow(w, len(w), len(w)-1))
	}
	return cycles
}

func TestCycleArguments(t *testing.T) {
	cycles := argumentCycles()
	for _, c := range cycleCalls {
		t.Run(c.name, func(t *testing.T) {
			checkArguments(t, c)
			forChoices(cycleNumbers, c.numbers, nil, func(numbers []int) {
				forChoices(cycles, c.lists, nil, func(lists [][]int) { checkCall(t, c, numbers, lists) })
			})
		})
	}
}

func TestCycleResultsEnd(t *testing.T) {
	checkResultsEnd(t, cycleCalls, cycleNumbers, argumentCycles())
}
