package tests

import (
	"fmt"
	"math"
	"slices"
	"testing"

	"loop.example/g01104/impl"
)

func swapOf(i, j int) impl.Move { return impl.Move{Kind: impl.MoveSwap, I: i, J: j} }

func reverseOf(i int) impl.Move { return impl.Move{Kind: impl.MoveReverse, I: i} }

func rotateOf(i int) impl.Move { return impl.Move{Kind: impl.MoveRotate, I: i} }

// movesFor lists all moves of permutations of n.
func movesFor(n int) []impl.Move {
	var moves []impl.Move
	for j := range n {
		for i := range j {
			moves = append(moves, swapOf(i, j))
		}
	}
	for i := 2; i <= n; i++ {
		moves = append(moves, reverseOf(i), rotateOf(i))
	}
	return moves
}

// plainMove puts the moved list together from parts of the given one.
func plainMove(list []int, m impl.Move) []int {
	switch m.Kind {
	case impl.MoveSwap:
		return slices.Concat(list[:m.I], list[m.J:m.J+1], list[m.I+1:m.J], list[m.I:m.I+1], list[m.J+1:])
	case impl.MoveReverse:
		var turned []int
		for i := m.I - 1; i >= 0; i-- {
			turned = append(turned, list[i])
		}
		return append(turned, list[m.I:]...)
	}
	return slices.Concat(list[1:m.I], list[:1], list[m.I:])
}

// badSingleMoves are no moves of permutations of any n.
var badSingleMoves = []impl.Move{
	{}, swapOf(1, 1), swapOf(1, 0), swapOf(-1, 0), swapOf(0, -1), swapOf(0, 12), swapOf(12, 13), swapOf(math.MinInt, math.MaxInt), swapOf(0, math.MaxInt),
	reverseOf(1), reverseOf(0), reverseOf(-2), reverseOf(13), reverseOf(math.MinInt), reverseOf(math.MaxInt),
	rotateOf(1), rotateOf(0), rotateOf(-2), rotateOf(13), rotateOf(math.MinInt), rotateOf(math.MaxInt),
	{Kind: impl.MoveReverse, I: 2, J: 1}, {Kind: impl.MoveReverse, I: 2, J: -1}, {Kind: impl.MoveRotate, I: 2, J: 3}, {Kind: impl.MoveRotate, I: 3, J: math.MinInt},
	{Kind: 3, I: 0, J: 1}, {Kind: 3, I: 2}, {Kind: -1, I: 2}, {Kind: math.MaxInt, I: 2}, {Kind: math.MinInt, I: 0, J: 1},
}

func TestKindsAreNumbered(t *testing.T) {
	kinds := []int{impl.MoveSwap, impl.MoveReverse, impl.MoveRotate}
	expectList(t, "the kinds", kinds, true, []int{0, 1, 2})
	expectList(t, "the limits", []int{impl.MaxMoves, impl.MaxBudget}, true, []int{12, 4000})
}

func TestMovesAndOtherNumbers(t *testing.T) {
	for n := range impl.MaxItems + 1 {
		moves := movesFor(n)
		for kind := -1; kind <= 3; kind++ {
			for i := -2; i <= 14; i++ {
				for j := -2; j <= 14; j++ {
					m := impl.Move{Kind: kind, I: i, J: j}
					isMove, ok := impl.IsMove(n, m)
					want := slices.Contains(moves, m)
					expectFact(t, fmt.Sprint("IsMove ", n, m), isMove, ok, want)
					moved, ok := impl.ApplyMove(downFrom(n), m)
					if want {
						expectList(t, fmt.Sprint("ApplyMove ", n, m), moved, ok, plainMove(downFrom(n), m))
					} else {
						expectNoList(t, fmt.Sprint("ApplyMove ", n, m), moved, ok)
					}
				}
			}
		}
	}
}

func TestMovesOfAllPermutations(t *testing.T) {
	for n := range 6 {
		for _, m := range movesFor(n) {
			sign, signOk := impl.MoveSign(m)
			for _, list := range sortedOrders(n) {
				name := fmt.Sprint(list, m)
				want := plainMove(list, m)
				moved, ok := impl.ApplyMove(list, m)
				expectList(t, "ApplyMove "+name, moved, ok, want)
				expectNumber(t, "MoveSign "+name, sign, signOk, signBySwaps(list)*signBySwaps(want))
			}
		}
	}
}

func TestMovesOfEachKind(t *testing.T) {
	list := []int{4, 2, 0, 3, 1}
	for _, c := range []struct {
		m           impl.Move
		want        []int
		order, sign int
	}{
		{swapOf(0, 1), []int{2, 4, 0, 3, 1}, 2, -1}, {swapOf(1, 4), []int{4, 1, 0, 3, 2}, 2, -1}, {swapOf(0, 4), []int{1, 2, 0, 3, 4}, 2, -1},
		{reverseOf(2), []int{2, 4, 0, 3, 1}, 2, -1}, {reverseOf(3), []int{0, 2, 4, 3, 1}, 2, -1},
		{reverseOf(4), []int{3, 0, 2, 4, 1}, 2, 1}, {reverseOf(5), []int{1, 3, 0, 2, 4}, 2, 1},
		{rotateOf(2), []int{2, 4, 0, 3, 1}, 2, -1}, {rotateOf(3), []int{2, 0, 4, 3, 1}, 3, 1},
		{rotateOf(4), []int{2, 0, 3, 4, 1}, 4, -1}, {rotateOf(5), []int{2, 0, 3, 1, 4}, 5, 1},
	} {
		name := fmt.Sprint(c.m)
		moved, ok := impl.ApplyMove(list, c.m)
		expectList(t, "ApplyMove "+name, moved, ok, c.want)
		order, ok := impl.MoveOrder(c.m)
		expectNumber(t, "MoveOrder "+name, order, ok, c.order)
		sign, ok := impl.MoveSign(c.m)
		expectNumber(t, "MoveSign "+name, sign, ok, c.sign)
	}
}

func TestOrdersAndSignsOfAllMoves(t *testing.T) {
	for _, m := range movesFor(impl.MaxItems) {
		list := plainMove(upTo(12), m)
		sign, ok := impl.MoveSign(m)
		expectNumber(t, fmt.Sprint("MoveSign ", m), sign, ok, signBySwaps(list))
		times := 1
		for !slices.Equal(list, upTo(12)) {
			list = plainMove(list, m)
			times++
		}
		order, ok := impl.MoveOrder(m)
		expectNumber(t, fmt.Sprint("MoveOrder ", m), order, ok, times)
	}
}

func TestInvalidSingleMoves(t *testing.T) {
	for _, m := range badSingleMoves {
		name := fmt.Sprint(m)
		for n := range impl.MaxItems + 1 {
			isMove, ok := impl.IsMove(n, m)
			expectFact(t, fmt.Sprint("IsMove ", n, m), isMove, ok, false)
			moved, ok := impl.ApplyMove(upTo(n), m)
			expectNoList(t, fmt.Sprint("ApplyMove ", n, m), moved, ok)
		}
		sign, ok := impl.MoveSign(m)
		expectNoNumber(t, "MoveSign "+name, sign, ok)
		order, ok := impl.MoveOrder(m)
		expectNoNumber(t, "MoveOrder "+name, order, ok)
	}
}

func TestMovesOfInvalidPermutations(t *testing.T) {
	for _, n := range []int{math.MinInt, -1, 13, 64, math.MaxInt} {
		for _, m := range []impl.Move{swapOf(0, 1), reverseOf(2), rotateOf(2), swapOf(1, 0)} {
			isMove, ok := impl.IsMove(n, m)
			expectNoFact(t, fmt.Sprint("IsMove ", n, m), isMove, ok)
		}
	}
	for _, list := range badPermutations {
		for _, m := range []impl.Move{swapOf(0, 1), reverseOf(2), rotateOf(2), rotateOf(12), reverseOf(13), swapOf(0, 12)} {
			moved, ok := impl.ApplyMove(list, m)
			expectNoList(t, fmt.Sprint("ApplyMove ", list, m), moved, ok)
		}
	}
}
