package tests

import (
	"fmt"
	"slices"
	"testing"

	"loop.example/g01104/impl"
)

// plainGreedy looks for each next permutation in the list itself.
func plainGreedy(n int, moves []impl.Move) [][]int {
	lists := [][]int{upTo(n)}
	for i := 0; i < len(lists); i++ {
		for _, m := range moves {
			next := plainMove(lists[i], m)
			isNext := func(list []int) bool { return slices.Equal(list, next) }
			if !slices.ContainsFunc(lists, isNext) {
				lists = append(lists, next)
				break
			}
		}
	}
	return lists
}

// plainDistances makes all moves of all permutations at one distance, and goes on with those that are met for the first time.
func plainDistances(n int, moves []impl.Move) []int {
	all := sortedOrders(n)
	distances := repeated(-1, len(all))
	for distance, level := 0, [][]int{upTo(n)}; len(level) > 0; distance++ {
		var further [][]int
		for _, list := range level {
			rank, _ := slices.BinarySearchFunc(all, list, slices.Compare[[]int])
			if distances[rank] >= 0 {
				continue
			}
			distances[rank] = distance
			for _, m := range moves {
				further = append(further, plainMove(list, m))
			}
		}
		level = further
	}
	return distances
}

func hasOnlyEvenMoves(moves []impl.Move) bool {
	for _, m := range moves {
		if signBySwaps(plainMove(upTo(12), m)) < 0 {
			return false
		}
	}
	return true
}

// expectReached holds all that moves reach against plain searches.
func expectReached(t *testing.T, n int, moves []impl.Move) {
	t.Helper()
	name := fmt.Sprint(n, moves)
	want := plainDistances(n, moves)
	distances, ok := impl.DistancesFrom(n, moves)
	expectList(t, "DistancesFrom "+name, distances, ok, want)
	wantCount := 0
	for _, distance := range want {
		if distance >= 0 {
			wantCount++
		}
	}
	count, ok := impl.ReachCount(n, moves)
	expectNumber(t, "ReachCount "+name, count, ok, wantCount)
	even, ok := impl.AreEven(n, moves)
	expectFact(t, "AreEven "+name, even, ok, hasOnlyEvenMoves(moves))
	if even && n >= 2 && 2*count > len(want) {
		t.Errorf("AreEven %s: true, but %d permutations are reached", name, count)
	}
}

func expectGreedy(t *testing.T, n int, moves []impl.Move) {
	t.Helper()
	name := fmt.Sprint("GreedyList ", n, moves)
	all, ok := impl.GreedyList(n, moves)
	expectLists(t, name, all, ok, plainGreedy(n, moves))
	sorted := slices.Clone(all)
	slices.SortFunc(sorted, slices.Compare[[]int])
	expectMoveList(t, n, all, moves, slices.EqualFunc(sorted, sortedOrders(n), slices.Equal[[]int]))
	_, ok = impl.MovesOf(n, all, moves)
	if !ok {
		t.Errorf("MovesOf fails for %s", name)
	}
	if once := slices.CompactFunc(sorted, slices.Equal[[]int]); len(once) != len(all) {
		t.Errorf("%s meets permutations twice: %v", name, all)
	}
}

func TestWhatFewMovesReach(t *testing.T) {
	for n := 1; n <= 5; n++ {
		for count := range min(4, 7-n) {
			forChoices(movesFor(n), count, nil, func(moves []impl.Move) {
				expectReached(t, n, moves)
				expectGreedy(t, n, moves)
			})
		}
	}
}

func TestWhatManyMovesReach(t *testing.T) {
	neighbours := []impl.Move{swapOf(0, 1), swapOf(1, 2), swapOf(2, 3), swapOf(3, 4)}
	for _, moves := range [][]impl.Move{
		neighbours, {reverseOf(2), reverseOf(3), reverseOf(4), reverseOf(5)}, {reverseOf(5), reverseOf(4), reverseOf(3), reverseOf(2)},
		{rotateOf(5), rotateOf(4), rotateOf(3), rotateOf(2)}, {rotateOf(2), rotateOf(3), rotateOf(4), rotateOf(5)}, {rotateOf(5), swapOf(0, 1)},
		{rotateOf(3), rotateOf(5)}, {rotateOf(3), rotateOf(5), reverseOf(4), reverseOf(5)}, {swapOf(0, 1), swapOf(3, 4)},
		movesFor(5)[:12], movesFor(5)[6:], slices.Repeat([]impl.Move{rotateOf(4)}, 12),
	} {
		expectReached(t, 5, moves)
		expectGreedy(t, 5, moves)
	}
	expectReached(t, 4, movesFor(4))
	expectGreedy(t, 4, movesFor(4))
}

func TestGreedyExample(t *testing.T) {
	moves := []impl.Move{reverseOf(2), reverseOf(3)}
	want := [][]int{{0, 1, 2}, {1, 0, 2}, {2, 0, 1}, {0, 2, 1}, {1, 2, 0}, {2, 1, 0}}
	all, ok := impl.GreedyList(3, moves)
	expectLists(t, "GreedyList 3", all, ok, want)
	expectMoveList(t, 3, all, moves, true)
}

func TestGreedyListsThatEndEarly(t *testing.T) {
	for _, c := range []struct {
		n       int
		moves   []impl.Move
		want    [][]int
		reached int
	}{
		{3, []impl.Move{rotateOf(3)}, [][]int{{0, 1, 2}, {1, 2, 0}, {2, 0, 1}}, 3},
		{4, []impl.Move{reverseOf(4)}, [][]int{{0, 1, 2, 3}, {3, 2, 1, 0}}, 2},
		{4, []impl.Move{swapOf(0, 1), swapOf(2, 3)}, [][]int{{0, 1, 2, 3}, {1, 0, 2, 3}, {1, 0, 3, 2}, {0, 1, 3, 2}}, 4},
		// These end though the moves reach more.
		{3, []impl.Move{swapOf(0, 1), rotateOf(3)}, [][]int{{0, 1, 2}, {1, 0, 2}, {0, 2, 1}, {2, 0, 1}}, 6},
		{4, []impl.Move{swapOf(0, 1), rotateOf(4)}, [][]int{{0, 1, 2, 3}, {1, 0, 2, 3}, {0, 2, 3, 1}, {2, 0, 3, 1}, {0, 3, 1, 2}, {3, 0, 1, 2}}, 24},
	} {
		all, ok := impl.GreedyList(c.n, c.moves)
		expectLists(t, fmt.Sprint("GreedyList ", c.n, c.moves), all, ok, c.want)
		expectMoveList(t, c.n, all, c.moves, false)
		count, ok := impl.ReachCount(c.n, c.moves)
		expectNumber(t, fmt.Sprint("ReachCount ", c.n, c.moves), count, ok, c.reached)
	}
}

func TestNothingReachedWithoutMoves(t *testing.T) {
	for n := 1; n <= 5; n++ {
		all, ok := impl.GreedyList(n, nil)
		expectLists(t, fmt.Sprint("GreedyList ", n), all, ok, [][]int{upTo(n)})
		count, ok := impl.ReachCount(n, nil)
		expectNumber(t, fmt.Sprint("ReachCount ", n), count, ok, 1)
		even, ok := impl.AreEven(n, nil)
		expectFact(t, fmt.Sprint("AreEven ", n), even, ok, true)
		want := repeated(-1, len(sortedOrders(n)))
		want[0] = 0
		distances, ok := impl.DistancesFrom(n, nil)
		expectList(t, fmt.Sprint("DistancesFrom ", n), distances, ok, want)
	}
}

func TestEvenMovesReachHalf(t *testing.T) {
	for _, c := range []struct {
		n     int
		moves []impl.Move
		even  bool
		count int
	}{
		{3, []impl.Move{rotateOf(3)}, true, 3}, {4, []impl.Move{rotateOf(3), reverseOf(4)}, true, 12}, {5, []impl.Move{rotateOf(3), rotateOf(5)}, true, 60},
		{5, []impl.Move{reverseOf(4), reverseOf(5)}, true, 10}, {4, []impl.Move{rotateOf(4)}, false, 4}, {5, []impl.Move{rotateOf(5), swapOf(0, 1)}, false, 120},
		{4, []impl.Move{rotateOf(3), reverseOf(4), reverseOf(2)}, false, 24}, {2, []impl.Move{swapOf(0, 1)}, false, 2},
	} {
		even, ok := impl.AreEven(c.n, c.moves)
		expectFact(t, fmt.Sprint("AreEven ", c.n, c.moves), even, ok, c.even)
		count, ok := impl.ReachCount(c.n, c.moves)
		expectNumber(t, fmt.Sprint("ReachCount ", c.n, c.moves), count, ok, c.count)
	}
}

func TestDistancesOfReversals(t *testing.T) {
	distances, ok := impl.DistancesFrom(3, []impl.Move{reverseOf(2), reverseOf(3)})
	expectList(t, "DistancesFrom 3", distances, ok, []int{0, 3, 1, 2, 2, 1})
	distances, ok = impl.DistancesFrom(3, []impl.Move{rotateOf(3)})
	expectList(t, "DistancesFrom 3 by a rotation", distances, ok, []int{0, -1, -1, 1, 2, -1})
}

func TestInvalidMovesReachNothing(t *testing.T) {
	for _, c := range badMoves {
		name := fmt.Sprint(c.n, c.moves)
		all, ok := impl.GreedyList(c.n, c.moves)
		expectNoLists(t, "GreedyList "+name, all, ok)
		count, ok := impl.ReachCount(c.n, c.moves)
		expectNoNumber(t, "ReachCount "+name, count, ok)
		even, ok := impl.AreEven(c.n, c.moves)
		expectNoFact(t, "AreEven "+name, even, ok)
		distances, ok := impl.DistancesFrom(c.n, c.moves)
		expectNoList(t, "DistancesFrom "+name, distances, ok)
		steps, ok := impl.FirstPath(c.n, c.moves, impl.MaxBudget)
		expectNoList(t, "FirstPath "+name, steps, ok)
	}
}
