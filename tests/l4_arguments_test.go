package tests

import (
	"slices"
	"testing"

	"loop.example/g01104/impl"
)

// moveCall is a function that takes some numbers, some lists and moves; ok stands last in its result.
type moveCall struct {
	name    string
	numbers int
	lists   int
	run     func(numbers []int, lists [][]int, moves []impl.Move) []any
}

var hostileMoves = [][]impl.Move{
	nil, {}, {swapOf(0, 1)}, {reverseOf(2)}, {rotateOf(2), rotateOf(3)}, {swapOf(0, 1), swapOf(1, 2), reverseOf(3)}, {reverseOf(4), rotateOf(5)},
	{swapOf(0, 1), swapOf(1, 1)}, {{Kind: impl.MoveRotate, I: 2, J: 1}}, {reverseOf(12)}, {reverseOf(13)},
	movesFor(4), movesFor(5)[:12], movesFor(5), badSingleMoves, slices.Repeat([]impl.Move{rotateOf(2)}, 5000),
}

// trotterCalls are the functions of chapter 4 without moves.
var trotterCalls = []call{
	{"TrotterAt", 2, 0, func(n []int, _ [][]int) []any { x, ok := impl.TrotterAt(n[0], n[1]); return []any{x, ok} }},
	{"TrotterRank", 0, 1, func(_ []int, l [][]int) []any { x, ok := impl.TrotterRank(l[0]); return []any{x, ok} }},
	{"NextTrotter", 0, 1, func(_ []int, l [][]int) []any { x, y, ok := impl.NextTrotter(l[0]); return []any{x, y, ok} }},
}

// singleMoveCalls are run with a list of one move.
var singleMoveCalls = []moveCall{
	{"IsMove", 1, 0, func(n []int, _ [][]int, m []impl.Move) []any { x, ok := impl.IsMove(n[0], m[0]); return []any{x, ok} }},
	{"ApplyMove", 0, 1, func(_ []int, l [][]int, m []impl.Move) []any {
		x, ok := impl.ApplyMove(l[0], m[0])
		return []any{x, ok}
	}},
	{"MoveSign", 0, 0, func(_ []int, _ [][]int, m []impl.Move) []any { x, ok := impl.MoveSign(m[0]); return []any{x, ok} }},
	{"MoveOrder", 0, 0, func(_ []int, _ [][]int, m []impl.Move) []any { x, ok := impl.MoveOrder(m[0]); return []any{x, ok} }},
}

var moveCalls = []moveCall{
	{"FollowMoves", 1, 1, func(n []int, l [][]int, m []impl.Move) []any {
		x, ok := impl.FollowMoves(n[0], m, l[0])
		return []any{x, ok}
	}},
	{"GreedyList", 1, 0, func(n []int, _ [][]int, m []impl.Move) []any { x, ok := impl.GreedyList(n[0], m); return []any{x, ok} }},
	{"ReachCount", 1, 0, func(n []int, _ [][]int, m []impl.Move) []any { x, ok := impl.ReachCount(n[0], m); return []any{x, ok} }},
	{"AreEven", 1, 0, func(n []int, _ [][]int, m []impl.Move) []any { x, ok := impl.AreEven(n[0], m); return []any{x, ok} }},
	{"FirstPath", 2, 0, func(n []int, _ [][]int, m []impl.Move) []any {
		x, ok := impl.FirstPath(n[0], m, n[1])
		return []any{x, ok}
	}},
	{"DistancesFrom", 1, 0, func(n []int, _ [][]int, m []impl.Move) []any {
		x, ok := impl.DistancesFrom(n[0], m)
		return []any{x, ok}
	}},
}

// moveTableCalls take all their lists as one list of lists.
var moveTableCalls = []moveCall{
	{"IsMoveList", 1, 0, func(n []int, table [][]int, m []impl.Move) []any {
		x, ok := impl.IsMoveList(n[0], table, m)
		return []any{x, ok}
	}},
	{"MovesOf", 1, 0, func(n []int, table [][]int, m []impl.Move) []any {
		x, ok := impl.MovesOf(n[0], table, m)
		return []any{x, ok}
	}},
}

// keepingMoves runs a function with moves that have spare capacity, and looks whether they or this change.
func keepingMoves(t *testing.T, c moveCall, moves []impl.Move) func([]int, [][]int) []any {
	return func(numbers []int, lists [][]int) []any {
		memory := append(slices.Clone(moves), reverseOf(2), swapOf(0, 1), rotateOf(2))
		before := slices.Clone(memory)
		results := c.run(numbers, lists, memory[:len(moves)])
		if !slices.Equal(memory, before) {
			t.Errorf("%s %v %v: the moves %v or their spare capacity are changed", c.name, numbers, lists, moves)
		}
		return results
	}
}

func checkMoveArguments(t *testing.T, c moveCall, moves []impl.Move) {
	checkArguments(t, call{c.name, c.numbers, c.lists, keepingMoves(t, c, moves)})
}

func TestTrotterArguments(t *testing.T) {
	for _, c := range trotterCalls {
		t.Run(c.name, func(t *testing.T) { checkArguments(t, c) })
	}
}

func TestMoveArguments(t *testing.T) {
	for _, c := range singleMoveCalls {
		t.Run(c.name, func(t *testing.T) {
			for _, m := range slices.Concat(badSingleMoves, movesFor(5), movesFor(12)[60:]) {
				checkMoveArguments(t, c, []impl.Move{m})
			}
		})
	}
	for _, c := range moveCalls {
		t.Run(c.name, func(t *testing.T) {
			for _, moves := range hostileMoves {
				checkMoveArguments(t, c, moves)
			}
		})
	}
	for _, c := range moveTableCalls {
		t.Run(c.name, func(t *testing.T) {
			for _, moves := range hostileMoves {
				run := keepingMoves(t, c, moves)
				checkTableArguments(t, tableCall{c.name, c.numbers, c.lists, func(numbers []int, _, table [][]int) []any { return run(numbers, table) }})
			}
		})
	}
}
