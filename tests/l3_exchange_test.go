package tests

import (
	"fmt"
	"math"
	"math/bits"
	"slices"
	"testing"

	"loop.example/g01104/impl"
)

// plainExchange looks at combinations as sets of bits; adjacent exchanges change two bits side by side.
func plainExchange(a, b []int) (exchange, adjacent bool) {
	changed := setOf(a) ^ setOf(b)
	exchange = len(a) == len(b) && bits.OnesCount(uint(changed)) == 2
	return exchange, exchange && changed&(changed>>1) != 0
}

// plainExchangeList tells whether lists go on by exchanges, by adjacent ones, and by exchanges at the end, too.
func plainExchangeList(n, k int, lists [][]int) (exchange, adjacent, round bool) {
	sorted := slices.Clone(lists)
	slices.SortFunc(sorted, slices.Compare[[]int])
	if !slices.EqualFunc(sorted, sortedSubsets(n, k), slices.Equal[[]int]) {
		return false, false, false
	}
	exchange, adjacent = true, true
	for i := 1; i < len(lists); i++ {
		one, near := plainExchange(lists[i-1], lists[i])
		exchange, adjacent = exchange && one, adjacent && near
	}
	last, _ := plainExchange(lists[len(lists)-1], lists[0])
	return exchange, adjacent, exchange && (last || len(lists) == 1)
}

func expectExchanges(t *testing.T, n, k int, lists [][]int, exchange, round bool) {
	t.Helper()
	name := fmt.Sprint(n, k, lists)
	got, ok := impl.IsExchangeList(n, k, lists)
	expectFact(t, "IsExchangeList "+name, got, ok, exchange)
	got, ok = impl.IsRoundExchange(n, k, lists)
	expectFact(t, "IsRoundExchange "+name, got, ok, round)
}

func expectAdjacent(t *testing.T, n, k int, lists [][]int, adjacent bool) {
	t.Helper()
	got, ok := impl.IsAdjacentList(n, k, lists)
	expectFact(t, fmt.Sprint("IsAdjacentList ", n, k, lists), got, ok, adjacent)
}

// subsetsOfAnySize returns all combinations of n.
func subsetsOfAnySize(n int) [][]int {
	var found [][]int
	for k := range n + 1 {
		found = append(found, sortedSubsets(n, k)...)
	}
	return found
}

func TestExchangesOfAllPairs(t *testing.T) {
	for n := range 7 {
		for _, a := range subsetsOfAnySize(n) {
			for _, b := range subsetsOfAnySize(n) {
				name := fmt.Sprint("ExchangeOf ", n, a, b)
				out, in, ok := impl.ExchangeOf(n, a, b)
				if exchange, _ := plainExchange(a, b); !exchange {
					expectNoPair(t, name, out, in, ok)
					continue
				}
				wantOut := elementsOf(setOf(a) &^ setOf(b))
				wantIn := elementsOf(setOf(b) &^ setOf(a))
				expectPair(t, name, out, in, ok, wantOut[0], wantIn[0])
			}
		}
	}
}

func TestExchangesOfManyItems(t *testing.T) {
	out, in, ok := impl.ExchangeOf(12, upTo(11), upTo(12)[1:])
	expectPair(t, "ExchangeOf the first and the last", out, in, ok, 0, 11)
	out, in, ok = impl.ExchangeOf(12, []int{11}, []int{0})
	expectPair(t, "ExchangeOf 11 and 0", out, in, ok, 11, 0)
	out, in, ok = impl.ExchangeOf(12, upTo(12), upTo(12))
	expectNoPair(t, "ExchangeOf equal ones", out, in, ok)
	out, in, ok = impl.ExchangeOf(12, nil, nil)
	expectNoPair(t, "ExchangeOf none", out, in, ok)
}

func TestInvalidExchanges(t *testing.T) {
	for _, c := range badCombinations {
		out, in, ok := impl.ExchangeOf(c.n, c.list, []int{0})
		expectNoPair(t, fmt.Sprint("ExchangeOf from ", c), out, in, ok)
		out, in, ok = impl.ExchangeOf(c.n, []int{0}, c.list)
		expectNoPair(t, fmt.Sprint("ExchangeOf to ", c), out, in, ok)
	}
	for _, list := range [][]int{{0, 4}, {0, 0}, {2, 0}, {-1, 0}, {0, math.MaxInt}, {math.MinInt, 0}} {
		out, in, ok := impl.ExchangeOf(4, []int{0, 1}, list)
		expectNoPair(t, fmt.Sprint("ExchangeOf to ", list), out, in, ok)
	}
}

func TestExchangeListsOfAllOrders(t *testing.T) {
	for n := range 6 {
		for k := range n + 1 {
			sets := sortedSubsets(n, k)
			if len(sets) > 6 {
				continue
			}
			for _, order := range sortedOrders(len(sets)) {
				var lists [][]int
				for _, i := range order {
					lists = append(lists, sets[i])
				}
				exchange, adjacent, round := plainExchangeList(n, k, lists)
				expectExchanges(t, n, k, lists, exchange, round)
				expectAdjacent(t, n, k, lists, adjacent)
			}
		}
	}
}

func TestRoundAndOpenLists(t *testing.T) {
	open := [][]int{{0, 1}, {0, 2}, {0, 3}, {1, 3}, {1, 2}, {2, 3}}
	expectExchanges(t, 4, 2, open, true, false)
	closed := [][]int{{0, 1}, {0, 2}, {2, 3}, {1, 2}, {1, 3}, {0, 3}}
	expectExchanges(t, 4, 2, closed, true, true)
	expectExchanges(t, 2, 1, [][]int{{1}, {0}}, true, true)
	lexicographic, _ := impl.AllCombinations(12, 6)
	expectExchanges(t, 12, 6, lexicographic, false, false)
}

func TestListsWithoutAllCombinations(t *testing.T) {
	for _, c := range []struct {
		n, k  int
		lists [][]int
	}{
		{3, 1, nil}, {3, 1, [][]int{{0}, {1}}}, {3, 1, [][]int{{0}, {1}, {0}}}, {3, 1, [][]int{{0}, {1}, {1}}}, {3, 1, [][]int{{0}, {1}, {2}, {1}}},
		{3, 1, [][]int{{0, 1}, {1, 2}, {0, 2}}}, {3, 1, [][]int{{0}, {1}, {}}}, {3, 1, [][]int{{0}, {1}, {1, 2}}}, {3, 2, [][]int{{0}, {1}, {2}}},
		{3, 0, [][]int{{0}}}, {3, 3, [][]int{{}}}, {3, 0, [][]int{{}, {}}}, {0, 0, nil}, {4, 1, [][]int{{0}, {1}, {2}}}, {12, 6, [][]int{upTo(6)}},
	} {
		expectExchanges(t, c.n, c.k, c.lists, false, false)
		expectAdjacent(t, c.n, c.k, c.lists, false)
	}
}

func TestOneWrongCombination(t *testing.T) {
	for n := 2; n <= impl.MaxItems; n++ {
		k := n / 2
		for at := range 3 {
			lists := elementsOfAll(doorList(n, k))
			i := at * (len(lists) - 1) / 2
			lists[i] = lists[(i+1)%len(lists)]
			expectExchanges(t, n, k, lists, false, false)
			lists[i] = upTo(k - 1)
			expectExchanges(t, n, k, lists, false, false)
		}
	}
}

func expectNoListOf(t *testing.T, n, k int, lists [][]int) {
	t.Helper()
	name := fmt.Sprint(n, k, len(lists))
	got, ok := impl.IsExchangeList(n, k, lists)
	expectNoFact(t, "IsExchangeList "+name, got, ok)
	got, ok = impl.IsRoundExchange(n, k, lists)
	expectNoFact(t, "IsRoundExchange "+name, got, ok)
	got, ok = impl.IsAdjacentList(n, k, lists)
	expectNoFact(t, "IsAdjacentList "+name, got, ok)
}

func TestInvalidListsOfCombinations(t *testing.T) {
	for _, c := range badChoices {
		expectNoListOf(t, c[0], c[1], nil)
		expectNoListOf(t, c[0], c[1], [][]int{{}})
	}
	for _, c := range badCombinations {
		expectNoListOf(t, c.n, 0, [][]int{c.list})
		expectNoListOf(t, c.n, 1, [][]int{{0}, c.list})
		others, ok := impl.ComplementsOf(c.n, [][]int{nil, c.list})
		expectNoLists(t, fmt.Sprint("ComplementsOf ", c), others, ok)
	}
	for _, n := range []int{math.MinInt, -1, 13, math.MaxInt} {
		others, ok := impl.ComplementsOf(n, nil)
		expectNoLists(t, fmt.Sprint("ComplementsOf none of ", n), others, ok)
	}
}

func TestAsManyCombinationsAsAllowed(t *testing.T) {
	lists := slices.Repeat([][]int{{0}, {1, 2}}, 550)
	expectExchanges(t, 3, 1, lists, false, false)
	expectAdjacent(t, 3, 1, lists, false)
	others, ok := impl.ComplementsOf(3, lists)
	expectLists(t, "ComplementsOf 1100 lists", others, ok, slices.Repeat([][]int{{1, 2}, {0}}, 550))
	lists = append(lists, []int{0})
	expectNoListOf(t, 3, 1, lists)
	others, ok = impl.ComplementsOf(3, lists)
	expectNoLists(t, "ComplementsOf 1101 lists", others, ok)
}

func TestComplements(t *testing.T) {
	for n := range impl.MaxItems + 1 {
		var lists, want [][]int
		for set := range min(1<<n, impl.MaxList) {
			lists = append(lists, elementsOf(set))
			want = append(want, elementsOf(1<<n-1-set))
		}
		others, ok := impl.ComplementsOf(n, lists)
		expectLists(t, fmt.Sprint("ComplementsOf all of ", n), others, ok, want)
		back, ok := impl.ComplementsOf(n, others)
		expectLists(t, fmt.Sprint("ComplementsOf complements of ", n), back, ok, lists)
		none, ok := impl.ComplementsOf(n, nil)
		expectLists(t, fmt.Sprint("ComplementsOf none of ", n), none, ok, nil)
	}
}

func TestComplementsOfExchangeLists(t *testing.T) {
	for n := range impl.MaxItems + 1 {
		for k := range n + 1 {
			others, ok := impl.ComplementsOf(n, elementsOfAll(doorList(n, k)))
			if !ok {
				t.Errorf("ComplementsOf fails for the revolving list of %d and %d", n, k)
			}
			expectExchanges(t, n, n-k, others, true, true)
		}
	}
}
