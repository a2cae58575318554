package tests

import (
	"testing"

	"loop.example/g01104/impl"
)

// grayCalls are the functions of chapter 2 without a list of lists; ok stands last in each result.
var grayCalls = []call{
	{"ReflectedAt", 2, 0, func(n []int, _ [][]int) []any { x, ok := impl.ReflectedAt(n[0], n[1]); return []any{x, ok} }},
	{"ReflectedRank", 2, 0, func(n []int, _ [][]int) []any { x, ok := impl.ReflectedRank(n[0], n[1]); return []any{x, ok} }},
	{"NextReflected", 2, 0, func(n []int, _ [][]int) []any {
		x, y, ok := impl.NextReflected(n[0], n[1])
		return []any{x, y, ok}
	}},
	{"IsCode", 1, 1, func(n []int, l [][]int) []any { x, ok := impl.IsCode(n[0], l[0]); return []any{x, ok} }},
	{"IsRoundCode", 1, 1, func(n []int, l [][]int) []any { x, ok := impl.IsRoundCode(n[0], l[0]); return []any{x, ok} }},
	{"DeltasOf", 1, 1, func(n []int, l [][]int) []any { x, ok := impl.DeltasOf(n[0], l[0]); return []any{x, ok} }},
	{"FromDeltas", 2, 1, func(n []int, l [][]int) []any { x, ok := impl.FromDeltas(n[0], n[1], l[0]); return []any{x, ok} }},
	{"ChangesOf", 1, 1, func(n []int, l [][]int) []any { x, ok := impl.ChangesOf(n[0], l[0]); return []any{x, ok} }},
	{"IsEvenlyChanged", 1, 1, func(n []int, l [][]int) []any { x, ok := impl.IsEvenlyChanged(n[0], l[0]); return []any{x, ok} }},
	{"LeastRun", 1, 1, func(n []int, l [][]int) []any { x, ok := impl.LeastRun(n[0], l[0]); return []any{x, ok} }},
	{"MoveBits", 1, 2, func(n []int, l [][]int) []any { x, ok := impl.MoveBits(n[0], l[0], l[1]); return []any{x, ok} }},
	{"FlipBits", 2, 1, func(n []int, l [][]int) []any { x, ok := impl.FlipBits(n[0], l[0], n[1]); return []any{x, ok} }},
	{"TurnList", 2, 1, func(n []int, l [][]int) []any { x, ok := impl.TurnList(n[0], l[0], n[1]); return []any{x, ok} }},
	{"HalvesOf", 1, 1, func(n []int, l [][]int) []any { x, y, ok := impl.HalvesOf(n[0], l[0]); return []any{x, y, ok} }},
	{"PathThrough", 1, 1, func(n []int, l [][]int) []any { x, ok := impl.PathThrough(n[0], l[0]); return []any{x, ok} }},
	{"CountCodes", 1, 0, func(n []int, _ [][]int) []any { x, y, ok := impl.CountCodes(n[0]); return []any{x, y, ok} }},
	{"MixedAt", 1, 1, func(n []int, l [][]int) []any { x, ok := impl.MixedAt(l[0], n[0]); return []any{x, ok} }},
	{"MixedRank", 0, 2, func(_ []int, l [][]int) []any { x, ok := impl.MixedRank(l[0], l[1]); return []any{x, ok} }},
	{"NextMixed", 0, 2, func(_ []int, l [][]int) []any { x, y, ok := impl.NextMixed(l[0], l[1]); return []any{x, y, ok} }},
}

var grayTableCalls = []tableCall{
	{"IsMixedList", 0, 1, func(_ []int, l, table [][]int) []any { x, ok := impl.IsMixedList(l[0], table); return []any{x, ok} }},
}

func TestGrayArguments(t *testing.T) {
	for _, c := range grayCalls {
		t.Run(c.name, func(t *testing.T) { checkArguments(t, c) })
	}
	for _, c := range grayTableCalls {
		t.Run(c.name, func(t *testing.T) { checkTableArguments(t, c) })
	}
}
