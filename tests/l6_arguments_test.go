package tests

import (
	"slices"
	"testing"

	"loop.example/g01104/impl"
)

// shapeCalls are the functions of chapter 6 without a list of lists; ok stands last in each result.
var shapeCalls = []call{
	{"IsGrowth", 0, 1, func(_ []int, l [][]int) []any { return []any{impl.IsGrowth(l[0])} }},
	{"BlocksOf", 0, 1, func(_ []int, l [][]int) []any { x, ok := impl.BlocksOf(l[0]); return []any{x, ok} }},
	{"CountGrowths", 1, 0, func(n []int, _ [][]int) []any { x, ok := impl.CountGrowths(n[0]); return []any{x, ok} }},
	{"RankGrowth", 0, 1, func(_ []int, l [][]int) []any { x, ok := impl.RankGrowth(l[0]); return []any{x, ok} }},
	{"GrowthWith", 2, 0, func(n []int, _ [][]int) []any { x, ok := impl.GrowthWith(n[0], n[1]); return []any{x, ok} }},
	{"GrayGrowths", 1, 0, func(n []int, _ [][]int) []any { x, ok := impl.GrayGrowths(n[0]); return []any{x, ok} }},
	{"IsBalancedWord", 0, 1, func(_ []int, l [][]int) []any { return []any{impl.IsBalancedWord(l[0])} }},
	{"CountBalanced", 1, 0, func(n []int, _ [][]int) []any { x, ok := impl.CountBalanced(n[0]); return []any{x, ok} }},
	{"RankBalanced", 0, 1, func(_ []int, l [][]int) []any { x, ok := impl.RankBalanced(l[0]); return []any{x, ok} }},
	{"BalancedWith", 2, 0, func(n []int, _ [][]int) []any { x, ok := impl.BalancedWith(n[0], n[1]); return []any{x, ok} }},
	{"GrayBalanced", 1, 0, func(n []int, _ [][]int) []any { x, ok := impl.GrayBalanced(n[0]); return []any{x, ok} }},
	{"ParentsOf", 0, 1, func(_ []int, l [][]int) []any { x, ok := impl.ParentsOf(l[0]); return []any{x, ok} }},
	{"WordOfParents", 0, 1, func(_ []int, l [][]int) []any { x, ok := impl.WordOfParents(l[0]); return []any{x, ok} }},
	{"HasCrossing", 0, 1, func(_ []int, l [][]int) []any { x, ok := impl.HasCrossing(l[0]); return []any{x, ok} }},
	{"WordOfGrowth", 0, 1, func(_ []int, l [][]int) []any { x, ok := impl.WordOfGrowth(l[0]); return []any{x, ok} }},
	{"GrowthOfWord", 0, 1, func(_ []int, l [][]int) []any { x, ok := impl.GrowthOfWord(l[0]); return []any{x, ok} }},
	{"IsParted", 0, 1, func(_ []int, l [][]int) []any { return []any{impl.IsParted(l[0])} }},
	{"CountParted", 2, 0, func(n []int, _ [][]int) []any { x, ok := impl.CountParted(n[0], n[1]); return []any{x, ok} }},
	{"PartedOf", 1, 0, func(n []int, _ [][]int) []any { x, ok := impl.PartedOf(n[0]); return []any{x, ok} }},
	{"RankParted", 0, 1, func(_ []int, l [][]int) []any { x, ok := impl.RankParted(l[0]); return []any{x, ok} }},
	{"PartedWith", 2, 0, func(n []int, _ [][]int) []any { x, ok := impl.PartedWith(n[0], n[1]); return []any{x, ok} }},
	{"ConjugateOf", 0, 1, func(_ []int, l [][]int) []any { x, ok := impl.ConjugateOf(l[0]); return []any{x, ok} }},
	{"DominatesParted", 0, 2, func(_ []int, l [][]int) []any {
		x, ok := impl.DominatesParted(l[0], l[1])
		return []any{x, ok}
	}},
}

var blockCall = tableCall{"GrowthOf", 0, 0, func(_ []int, _, table [][]int) []any { x, ok := impl.GrowthOf(table); return []any{x, ok} }}

// shapeLists are all short lists of the kinds of chapter 6, some long ones, and some that are of one kind at most.
func shapeLists() [][]int {
	lists := [][]int{
		slices.Repeat([]int{1, 0}, 12), append(repeated(1, 12), repeated(0, 12)...), append([]int{-1}, upTo(11)...), repeated(-1, 12), append(repeated(0, 6), repeated(1, 6)...),
		{20}, repeated(1, 20), {6, 5, 4, 3, 2},
	}
	for n := range 5 {
		lists = append(lists, sortedGrowths(n)...)
		lists = append(lists, fallingParted(n)...)
		for _, w := range sortedBalanced(n) {
			lists = append(lists, w, plainParents(w))
		}
	}
	return slices.Concat(lists, badGrowths, badBalanced, badParted)
}

func TestShapeArguments(t *testing.T) {
	for _, c := range shapeCalls {
		t.Run(c.name, func(t *testing.T) {
			checkArguments(t, c)
			if c.lists > 0 {
				forChoices(shapeLists(), c.lists, nil, func(lists [][]int) { checkCall(t, c, nil, lists) })
			}
		})
	}
	t.Run(blockCall.name, func(t *testing.T) {
		checkTableArguments(t, blockCall)
		for n := range 7 {
			for _, blocks := range plainPartitions(n) {
				checkTable(t, blockCall, blocks)
			}
		}
		for _, blocks := range [][][]int{{upTo(12)}, {upTo(13)}, {{0, 2, 4, 6, 8, 10}, {1, 3, 5, 7, 9, 11}}, {{0, 11}, upTo(11)[1:]}} {
			checkTable(t, blockCall, blocks)
		}
	})
}

func TestShapeResultsEnd(t *testing.T) {
	checkResultsEnd(t, shapeCalls, []int{0, 1, 2, 4, 5, 7, 12, 20}, shapeLists())
}
