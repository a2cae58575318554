package tests

import (
	"fmt"
	"math"
	"slices"
	"testing"

	"loop.example/g01104/impl"
)

// badMoves are no moves of permutations of n for lists of these, or too many, or n is not in 1..5.
var badMoves = []struct {
	n     int
	moves []impl.Move
}{
	{0, nil}, {-1, nil}, {6, nil}, {12, nil}, {13, nil}, {math.MinInt, nil}, {math.MaxInt, nil},
	{0, []impl.Move{swapOf(0, 1)}}, {6, []impl.Move{swapOf(0, 1)}}, {12, []impl.Move{reverseOf(3)}}, {-1, []impl.Move{rotateOf(2)}},
	{1, []impl.Move{swapOf(0, 1)}}, {1, []impl.Move{reverseOf(2)}}, {1, []impl.Move{rotateOf(2)}}, {1, []impl.Move{reverseOf(1)}}, {1, []impl.Move{swapOf(0, 0)}},
	{3, []impl.Move{swapOf(0, 3)}}, {3, []impl.Move{reverseOf(2), reverseOf(4)}}, {3, []impl.Move{rotateOf(4), rotateOf(2)}}, {5, []impl.Move{rotateOf(6)}},
	{2, slices.Repeat([]impl.Move{rotateOf(2)}, 13)}, {5, slices.Repeat([]impl.Move{swapOf(0, 1)}, 2000)}, {4, append(movesFor(4), swapOf(0, 1))},
}

// plainStep returns the least index of a move that leads from a to b, or -1.
func plainStep(a, b []int, moves []impl.Move) int {
	return slices.IndexFunc(moves, func(m impl.Move) bool { return slices.Equal(plainMove(a, m), b) })
}

// plainSteps returns the steps along lists, and whether there are some everywhere.
func plainSteps(lists [][]int, moves []impl.Move) ([]int, bool) {
	var steps []int
	for i := 1; i < len(lists); i++ {
		steps = append(steps, plainStep(lists[i-1], lists[i], moves))
	}
	return steps, !slices.Contains(steps, -1)
}

func expectMoveList(t *testing.T, n int, lists [][]int, moves []impl.Move, want bool) {
	t.Helper()
	got, ok := impl.IsMoveList(n, lists, moves)
	expectFact(t, fmt.Sprint("IsMoveList ", n, lists, moves), got, ok, want)
}

// expectSteps holds the moves along lists against those that are found by trying each.
func expectSteps(t *testing.T, n int, lists [][]int, moves []impl.Move) {
	t.Helper()
	name := fmt.Sprint("MovesOf ", n, lists, moves)
	want, ok := plainSteps(lists, moves)
	steps, stepsOk := impl.MovesOf(n, lists, moves)
	if ok {
		expectList(t, name, steps, stepsOk, want)
	} else {
		expectNoList(t, name, steps, stepsOk)
	}
}

func TestMoveListsOfAllOrders(t *testing.T) {
	for n := 1; n <= 3; n++ {
		all := sortedOrders(n)
		for _, moves := range [][]impl.Move{nil, movesFor(n), movesFor(n)[:n/2], movesFor(n)[n/2:], movesFor(n)[:(n-1)*2]} {
			for _, order := range sortedOrders(len(all)) {
				var lists [][]int
				for _, r := range order {
					lists = append(lists, all[r])
				}
				_, want := plainSteps(lists, moves)
				expectMoveList(t, n, lists, moves, want)
				expectSteps(t, n, lists, moves)
			}
		}
	}
}

func TestTrottersListIsAMoveList(t *testing.T) {
	for n := 1; n <= 5; n++ {
		var moves []impl.Move
		for i := range n - 1 {
			moves = append(moves, swapOf(i, i+1))
		}
		lists := plainTrotter(n)
		expectMoveList(t, n, lists, moves, true)
		var want []int
		for _, list := range lists[:len(lists)-1] {
			_, at, _ := impl.NextTrotter(list)
			want = append(want, at)
		}
		steps, ok := impl.MovesOf(n, lists, moves)
		expectList(t, fmt.Sprint("MovesOf Trotter's list of ", n), steps, ok, want)
		back, ok := impl.FollowMoves(n, moves, steps)
		expectLists(t, fmt.Sprint("FollowMoves along Trotter's list of ", n), back, ok, lists)
		if n > 2 {
			expectMoveList(t, n, lists, moves[1:], false)
			expectMoveList(t, n, lists, []impl.Move{reverseOf(n)}, false)
		}
	}
}

func TestListsThatAreNoMoveLists(t *testing.T) {
	turn := []impl.Move{rotateOf(3), reverseOf(2), swapOf(1, 2)}
	for _, c := range []struct {
		n     int
		lists [][]int
	}{
		{1, nil}, {2, nil}, {5, nil}, {1, [][]int{{0}, {0}}}, {2, [][]int{{0, 1}}}, {3, [][]int{{0, 1, 2}}},
		{3, [][]int{{0, 1, 2}, {1, 2, 0}, {2, 0, 1}}}, {3, [][]int{{0, 1, 2}, {1, 2, 0}, {2, 0, 1}, {0, 1, 2}, {1, 2, 0}, {2, 0, 1}}},
		{3, [][]int{{0, 1, 2}, {1, 2, 0}, {2, 0, 1}, {0, 2, 1}, {2, 1, 0}, {1, 0, 2}, {0, 1, 2}}}, {5, [][]int{{0, 1, 2, 3, 4}, {1, 2, 0, 3, 4}}},
	} {
		moves := turn[:min(max(c.n-2, 0)*3, 3)]
		expectMoveList(t, c.n, c.lists, moves, false)
		expectSteps(t, c.n, c.lists, moves)
	}
	expectMoveList(t, 3, [][]int{{0, 1, 2}, {1, 2, 0}, {2, 0, 1}, {0, 2, 1}, {2, 1, 0}, {1, 0, 2}}, turn, true)
	expectMoveList(t, 1, [][]int{{0}}, nil, true)
}

func TestLeastIndicesOfMoves(t *testing.T) {
	lists := [][]int{{0, 1, 2}, {1, 0, 2}, {2, 0, 1}, {2, 0, 1}}
	moves := []impl.Move{rotateOf(3), rotateOf(2), swapOf(0, 1), reverseOf(2), reverseOf(3), swapOf(0, 2)}
	steps, ok := impl.MovesOf(3, lists[:3], moves)
	expectList(t, "MovesOf", steps, ok, []int{1, 4})
	steps, ok = impl.MovesOf(3, lists, moves)
	expectNoList(t, "MovesOf equal neighbours", steps, ok)
	for _, few := range [][][]int{nil, lists[:1], lists[2:3]} {
		for _, count := range []int{0, 6} {
			steps, ok = impl.MovesOf(3, few, moves[:count])
			expectList(t, fmt.Sprint("MovesOf ", few), steps, ok, nil)
		}
	}
	steps, ok = impl.MovesOf(3, lists[:2], nil)
	expectNoList(t, "MovesOf without moves", steps, ok)
}

func TestStepsOfAllPairs(t *testing.T) {
	for n := 1; n <= 4; n++ {
		for _, a := range sortedOrders(n) {
			for _, b := range sortedOrders(n) {
				expectSteps(t, n, [][]int{a, b}, movesFor(n))
			}
		}
	}
}

// badListsOf3 have lists that are no permutations of 3.
var badListsOf3 = [][][]int{
	{nil}, {{0}}, {{0, 1}}, {{0, 1, 2, 3}}, {{0, 1, 1}}, {{1, 2, 3}}, {{0, 1, 2}, {1, 0}}, {{0, 1, 2}, {1, 0, 2}, {1, 0, 3}}, {{0, 1, 2}, {-1, 0, 2}},
	{{0, math.MaxInt, 1}}, {{math.MinInt, 0, 1}}, slices.Repeat([][]int{{0, 1, 2}}, 1101), make([][]int, 2000),
}

func expectNoMoveList(t *testing.T, n int, lists [][]int, moves []impl.Move) {
	t.Helper()
	name := fmt.Sprint(n, lists, moves)
	got, ok := impl.IsMoveList(n, lists, moves)
	expectNoFact(t, "IsMoveList "+name, got, ok)
	steps, ok := impl.MovesOf(n, lists, moves)
	expectNoList(t, "MovesOf "+name, steps, ok)
}

func TestInvalidMoveLists(t *testing.T) {
	for _, lists := range badListsOf3 {
		expectNoMoveList(t, 3, lists, nil)
		expectNoMoveList(t, 3, lists, movesFor(3))
	}
	for _, c := range badMoves {
		expectNoMoveList(t, c.n, nil, c.moves)
		if 0 <= c.n && c.n <= 13 {
			expectNoMoveList(t, c.n, [][]int{upTo(c.n)}, c.moves)
			expectNoMoveList(t, c.n, [][]int{upTo(c.n), upTo(c.n)}, c.moves)
		}
	}
}

func TestMovesAlongAsManyListsAsAllowed(t *testing.T) {
	lists := slices.Repeat([][]int{{0, 1, 2}, {1, 0, 2}}, 551)
	moves := []impl.Move{reverseOf(3), reverseOf(2)}
	for _, count := range []int{1099, 1100} {
		steps, ok := impl.MovesOf(3, lists[:count], moves)
		expectList(t, fmt.Sprint("MovesOf ", count, " lists"), steps, ok, repeated(1, count-1))
		expectMoveList(t, 3, lists[:count], moves, false)
	}
	expectNoMoveList(t, 3, lists[:1101], moves)
	most := slices.Repeat(moves, 6)
	steps, ok := impl.MovesOf(3, lists[:3], most)
	expectList(t, "MovesOf with 12 moves", steps, ok, []int{1, 1})
	expectNoMoveList(t, 3, lists[:3], append(most, reverseOf(2)))
}

func TestFollowedMoves(t *testing.T) {
	moves := []impl.Move{swapOf(0, 2), reverseOf(4), rotateOf(3)}
	lists, ok := impl.FollowMoves(4, moves, []int{2, 1, 0, 0, 2})
	expectLists(t, "FollowMoves", lists, ok, [][]int{{0, 1, 2, 3}, {1, 2, 0, 3}, {3, 0, 2, 1}, {2, 0, 3, 1}, {3, 0, 2, 1}, {0, 2, 3, 1}})
	for n := 1; n <= 5; n++ {
		lists, ok = impl.FollowMoves(n, nil, nil)
		expectLists(t, fmt.Sprint("FollowMoves ", n, " without moves"), lists, ok, [][]int{upTo(n)})
		lists, ok = impl.FollowMoves(n, movesFor(n)[:n/2], nil)
		expectLists(t, fmt.Sprint("FollowMoves ", n, " without steps"), lists, ok, [][]int{upTo(n)})
		for step, m := range movesFor(n)[:min(12, len(movesFor(n)))] {
			lists, ok = impl.FollowMoves(n, movesFor(n)[:step+1], []int{step, step})
			once := plainMove(upTo(n), m)
			expectLists(t, fmt.Sprint("FollowMoves ", n, m, " twice"), lists, ok, [][]int{upTo(n), once, plainMove(once, m)})
		}
	}
}

func TestAsManyStepsAsAllowed(t *testing.T) {
	moves := []impl.Move{rotateOf(5)}
	for _, count := range []int{1098, 1099} {
		want := [][]int{upTo(5)}
		for range count {
			want = append(want, plainMove(want[len(want)-1], moves[0]))
		}
		lists, ok := impl.FollowMoves(5, moves, repeated(0, count))
		expectLists(t, fmt.Sprint("FollowMoves ", count, " steps"), lists, ok, want)
	}
	for _, count := range []int{1100, 5000} {
		lists, ok := impl.FollowMoves(5, moves, repeated(0, count))
		expectNoLists(t, fmt.Sprint("FollowMoves ", count, " steps"), lists, ok)
	}
}

func TestInvalidSteps(t *testing.T) {
	moves := []impl.Move{swapOf(0, 1), swapOf(1, 2)}
	for _, steps := range [][]int{{2}, {-1}, {0, 2}, {0, -1, 1}, {math.MaxInt}, {math.MinInt}} {
		lists, ok := impl.FollowMoves(3, moves, steps)
		expectNoLists(t, fmt.Sprint("FollowMoves ", steps), lists, ok)
	}
	lists, ok := impl.FollowMoves(3, nil, []int{0})
	expectNoLists(t, "FollowMoves a step without moves", lists, ok)
	for _, c := range badMoves {
		for _, steps := range [][]int{nil, {0}} {
			lists, ok := impl.FollowMoves(c.n, c.moves, steps)
			expectNoLists(t, fmt.Sprint("FollowMoves ", c.n, c.moves, steps), lists, ok)
		}
	}
}
