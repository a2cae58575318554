package tests

import (
	"testing"

	"loop.example/g01104/impl"
)

// rankCalls are the functions of chapter 1; ok stands last in each result.
var rankCalls = []call{
	{"Factorial", 1, 0, func(n []int, _ [][]int) []any { x, ok := impl.Factorial(n[0]); return []any{x, ok} }},
	{"Binomial", 2, 0, func(n []int, _ [][]int) []any { x, ok := impl.Binomial(n[0], n[1]); return []any{x, ok} }},
	{"IsCombination", 1, 1, func(n []int, l [][]int) []any { return []any{impl.IsCombination(n[0], l[0])} }},
	{"CombinationRank", 1, 1, func(n []int, l [][]int) []any { x, ok := impl.CombinationRank(n[0], l[0]); return []any{x, ok} }},
	{"CombinationAt", 3, 0, func(n []int, _ [][]int) []any {
		x, ok := impl.CombinationAt(n[0], n[1], n[2])
		return []any{x, ok}
	}},
	{"NextCombination", 1, 1, func(n []int, l [][]int) []any { x, ok := impl.NextCombination(n[0], l[0]); return []any{x, ok} }},
	{"ColexRank", 0, 1, func(_ []int, l [][]int) []any { x, ok := impl.ColexRank(l[0]); return []any{x, ok} }},
	{"ColexAt", 2, 0, func(n []int, _ [][]int) []any { x, ok := impl.ColexAt(n[0], n[1]); return []any{x, ok} }},
	{"AllCombinations", 2, 0, func(n []int, _ [][]int) []any { x, ok := impl.AllCombinations(n[0], n[1]); return []any{x, ok} }},
	{"IsPermutation", 0, 1, func(_ []int, l [][]int) []any { return []any{impl.IsPermutation(l[0])} }},
	{"PermutationRank", 0, 1, func(_ []int, l [][]int) []any { x, ok := impl.PermutationRank(l[0]); return []any{x, ok} }},
	{"PermutationAt", 2, 0, func(n []int, _ [][]int) []any { x, ok := impl.PermutationAt(n[0], n[1]); return []any{x, ok} }},
	{"NextPermutation", 0, 1, func(_ []int, l [][]int) []any { x, ok := impl.NextPermutation(l[0]); return []any{x, ok} }},
	{"InversionsOf", 0, 1, func(_ []int, l [][]int) []any { x, ok := impl.InversionsOf(l[0]); return []any{x, ok} }},
	{"FromInversions", 0, 1, func(_ []int, l [][]int) []any { x, ok := impl.FromInversions(l[0]); return []any{x, ok} }},
	{"SignOf", 0, 1, func(_ []int, l [][]int) []any { x, ok := impl.SignOf(l[0]); return []any{x, ok} }},
	{"InverseOf", 0, 1, func(_ []int, l [][]int) []any { x, ok := impl.InverseOf(l[0]); return []any{x, ok} }},
	{"AllPermutations", 1, 0, func(n []int, _ [][]int) []any { x, ok := impl.AllPermutations(n[0]); return []any{x, ok} }},
	{"DigitsAt", 1, 1, func(n []int, l [][]int) []any { x, ok := impl.DigitsAt(l[0], n[0]); return []any{x, ok} }},
	{"RankOfDigits", 0, 2, func(_ []int, l [][]int) []any { x, ok := impl.RankOfDigits(l[0], l[1]); return []any{x, ok} }},
}

func TestRankArguments(t *testing.T) {
	for _, c := range rankCalls {
		t.Run(c.name, func(t *testing.T) { checkArguments(t, c) })
	}
}
