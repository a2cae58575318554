package tests

import (
	"fmt"
	"math"
	"slices"
	"testing"

	"loop.example/g01104/impl"
)

// trail is a search that notes all that it puts on the way; it gives up if that are more than most.
type trail struct {
	moves []impl.Move
	count int
	most  int
	puts  int
}

// stepsBehind returns the steps with which a way goes on, by trying one move after the other.
func (s *trail) stepsBehind(way [][]int) ([]int, bool) {
	s.puts++
	if s.puts > s.most || len(way) == s.count {
		return nil, s.puts <= s.most
	}
	for step, m := range s.moves {
		next := plainMove(way[len(way)-1], m)
		isNext := func(list []int) bool { return slices.Equal(list, next) }
		if slices.ContainsFunc(way, isNext) {
			continue
		}
		if steps, ok := s.stepsBehind(append(slices.Clone(way), next)); ok {
			return append([]int{step}, steps...), true
		}
		if s.puts > s.most {
			return nil, false
		}
	}
	return nil, false
}

// expectMovePath searches with some budgets, the least one that is enough and that less by one among them.
func expectMovePath(t *testing.T, n int, moves []impl.Move) {
	t.Helper()
	s := trail{moves: moves, count: len(sortedOrders(n)), most: impl.MaxBudget}
	want, found := s.stepsBehind([][]int{upTo(n)})
	for _, budget := range []int{1, 2, 5, 6, 23, 24, s.puts - 1, s.puts, s.puts + 1, impl.MaxBudget - 1, impl.MaxBudget} {
		if budget < 1 || budget > impl.MaxBudget {
			continue
		}
		name := fmt.Sprint("FirstPath ", n, moves, budget)
		steps, ok := impl.FirstPath(n, moves, budget)
		if !found || budget < s.puts {
			expectNoList(t, name, steps, ok)
			continue
		}
		expectList(t, name, steps, ok, want)
		lists, ok := impl.FollowMoves(n, moves, steps)
		expectMoveList(t, n, lists, moves, ok)
	}
}

func TestPathsByFewMoves(t *testing.T) {
	for n := 1; n <= 3; n++ {
		for count := range 4 {
			forChoices(movesFor(n), count, nil, func(moves []impl.Move) { expectMovePath(t, n, moves) })
		}
	}
	for count := range 3 {
		forChoices(movesFor(4), count, nil, func(moves []impl.Move) { expectMovePath(t, 4, moves) })
	}
}

// expectBudgets holds the least budget against the one that is known.
func expectBudgets(t *testing.T, n int, moves []impl.Move, least int) {
	t.Helper()
	steps, ok := impl.FirstPath(n, moves, least)
	if !ok {
		t.Errorf("FirstPath %d %v %d fails", n, moves, least)
	}
	lists, ok := impl.FollowMoves(n, moves, steps)
	expectMoveList(t, n, lists, moves, ok)
	steps, ok = impl.FirstPath(n, moves, least-1)
	expectNoList(t, fmt.Sprint("FirstPath ", n, moves, least-1), steps, ok)
}

func TestBudgetsOfPaths(t *testing.T) {
	expectBudgets(t, 1, nil, 1)
	expectBudgets(t, 2, movesFor(2), 2)
	expectBudgets(t, 3, []impl.Move{reverseOf(2), reverseOf(3)}, 6)
	expectBudgets(t, 4, []impl.Move{swapOf(0, 3), rotateOf(3)}, 172)
	expectBudgets(t, 4, []impl.Move{reverseOf(4), rotateOf(3), swapOf(0, 1), swapOf(0, 3), rotateOf(2)}, 3994)
	for _, moves := range [][]impl.Move{{reverseOf(4), rotateOf(3), swapOf(0, 1), swapOf(0, 3), rotateOf(2)}, movesFor(4)} {
		expectMovePath(t, 4, moves)
	}
}

func TestPathOfNoSteps(t *testing.T) {
	for _, budget := range []int{1, 2, impl.MaxBudget} {
		steps, ok := impl.FirstPath(1, nil, budget)
		expectList(t, fmt.Sprint("FirstPath 1 ", budget), steps, ok, nil)
	}
	steps, ok := impl.FirstPath(2, []impl.Move{rotateOf(2)}, 2)
	expectList(t, "FirstPath 2", steps, ok, []int{0})
}

func TestPathsThatDoNotExist(t *testing.T) {
	for _, c := range []struct {
		n     int
		moves []impl.Move
	}{
		{2, nil}, {3, nil}, {4, nil}, {3, []impl.Move{rotateOf(3)}}, {3, []impl.Move{swapOf(0, 1)}}, {4, []impl.Move{rotateOf(3), reverseOf(4)}},
		{4, []impl.Move{swapOf(0, 1), swapOf(2, 3)}}, {4, []impl.Move{reverseOf(4), rotateOf(4)}},
		// Here there is a path, and 4004 permutations would be put on the way to it.
		{4, []impl.Move{swapOf(1, 3), rotateOf(3), reverseOf(4), swapOf(0, 2)}},
	} {
		steps, ok := impl.FirstPath(c.n, c.moves, impl.MaxBudget)
		expectNoList(t, fmt.Sprint("FirstPath ", c.n, c.moves), steps, ok)
	}
}

func TestInvalidPaths(t *testing.T) {
	for _, budget := range []int{math.MinInt, -1, 0, 4001, math.MaxInt} {
		for n := 1; n <= 4; n++ {
			steps, ok := impl.FirstPath(n, movesFor(n), budget)
			expectNoList(t, fmt.Sprint("FirstPath ", n, movesFor(n), budget), steps, ok)
		}
	}
	for _, moves := range [][]impl.Move{nil, {reverseOf(2), reverseOf(3), reverseOf(4), reverseOf(5)}} {
		steps, ok := impl.FirstPath(5, moves, impl.MaxBudget)
		expectNoList(t, fmt.Sprint("FirstPath 5 ", moves), steps, ok)
	}
}
