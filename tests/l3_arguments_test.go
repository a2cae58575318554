package tests

import (
	"testing"

	"loop.example/g01104/impl"
)

// chooseCalls are the functions of chapter 3 without a list of lists; ok stands last in each result.
var chooseCalls = []call{
	{"RevolvingAt", 3, 0, func(n []int, _ [][]int) []any {
		x, ok := impl.RevolvingAt(n[0], n[1], n[2])
		return []any{x, ok}
	}},
	{"RevolvingRank", 1, 1, func(n []int, l [][]int) []any { x, ok := impl.RevolvingRank(n[0], l[0]); return []any{x, ok} }},
	{"NextRevolving", 1, 1, func(n []int, l [][]int) []any { x, ok := impl.NextRevolving(n[0], l[0]); return []any{x, ok} }},
	{"RevolvingList", 2, 0, func(n []int, _ [][]int) []any { x, ok := impl.RevolvingList(n[0], n[1]); return []any{x, ok} }},
	{"ExchangeOf", 1, 2, func(n []int, l [][]int) []any {
		x, y, ok := impl.ExchangeOf(n[0], l[0], l[1])
		return []any{x, y, ok}
	}},
	{"BitsOf", 1, 1, func(n []int, l [][]int) []any { x, ok := impl.BitsOf(n[0], l[0]); return []any{x, ok} }},
	{"FromBits", 0, 1, func(_ []int, l [][]int) []any { x, ok := impl.FromBits(l[0]); return []any{x, ok} }},
	{"NextCool", 0, 1, func(_ []int, l [][]int) []any { x, ok := impl.NextCool(l[0]); return []any{x, ok} }},
	{"CoolList", 2, 0, func(n []int, _ [][]int) []any { x, ok := impl.CoolList(n[0], n[1]); return []any{x, ok} }},
	{"CoolRank", 0, 1, func(_ []int, l [][]int) []any { x, ok := impl.CoolRank(l[0]); return []any{x, ok} }},
	{"AdjacentHalves", 2, 0, func(n []int, _ [][]int) []any {
		x, y, ok := impl.AdjacentHalves(n[0], n[1])
		return []any{x, y, ok}
	}},
	{"AdjacentList", 2, 0, func(n []int, _ [][]int) []any { x, ok := impl.AdjacentList(n[0], n[1]); return []any{x, ok} }},
}

var chooseTableCalls = []tableCall{
	{"IsExchangeList", 2, 0, func(n []int, _, table [][]int) []any {
		x, ok := impl.IsExchangeList(n[0], n[1], table)
		return []any{x, ok}
	}},
	{"IsRoundExchange", 2, 0, func(n []int, _, table [][]int) []any {
		x, ok := impl.IsRoundExchange(n[0], n[1], table)
		return []any{x, ok}
	}},
	{"IsAdjacentList", 2, 0, func(n []int, _, table [][]int) []any {
		x, ok := impl.IsAdjacentList(n[0], n[1], table)
		return []any{x, ok}
	}},
	{"ComplementsOf", 1, 0, func(n []int, _, table [][]int) []any {
		x, ok := impl.ComplementsOf(n[0], table)
		return []any{x, ok}
	}},
}

func TestChooseArguments(t *testing.T) {
	for _, c := range chooseCalls {
		t.Run(c.name, func(t *testing.T) { checkArguments(t, c) })
	}
	for _, c := range chooseTableCalls {
		t.Run(c.name, func(t *testing.T) { checkTableArguments(t, c) })
	}
}
