package tests

import (
	"fmt"
	"math"
	"math/rand/v2"
	"slices"
	"testing"

	"loop.example/g01104/impl"
)

// orderCycleOf4 has the numbers 0..4.
var orderCycleOf4 = []int{0, 1, 2, 3, 0, 1, 4, 2, 3, 0, 4, 2, 1, 0, 3, 4, 2, 1, 3, 0, 2, 1, 4, 3}

// plainOrder looks for each number in the sorted list. It has none for equal numbers.
func plainOrder(list []int) ([]int, bool) {
	sorted := sortedOf(list)
	if len(slices.Compact(slices.Clone(sorted))) < len(list) {
		return nil, false
	}
	order := []int{}
	for _, x := range list {
		order = append(order, slices.Index(sorted, x))
	}
	return order, true
}

func plainOrderCycle(n int, word []int) bool {
	orders := map[string]bool{}
	for place := range word {
		order, ok := plainOrder(plainWindow(word, n, place))
		if !ok {
			return false
		}
		orders[fmt.Sprint(order)] = true
	}
	count := len(sortedOrders(n))
	return len(word) == count && len(orders) == count
}

func expectOrder(t *testing.T, list []int) {
	t.Helper()
	name := fmt.Sprint("OrderOf ", list)
	order, ok := impl.OrderOf(list)
	if want, different := plainOrder(list); different && len(list) <= 12 {
		expectList(t, name, order, ok, want)
	} else {
		expectNoList(t, name, order, ok)
	}
}

func expectOrders(t *testing.T, n int, word []int) bool {
	t.Helper()
	name := fmt.Sprint("IsOrderCycle ", n, word)
	got, ok := impl.IsOrderCycle(n, word)
	if n < 2 || n > 4 || !plainSuperWord(word) {
		expectNoFact(t, name, got, ok)
		return false
	}
	want := plainOrderCycle(n, word)
	expectFact(t, name, got, ok, want)
	return want
}

// replaced puts another number in the place of each number of a word.
func replaced(word []int, by []int) []int {
	var other []int
	for _, x := range word {
		other = append(other, by[x])
	}
	return other
}

func TestOrders(t *testing.T) {
	for length := range 6 {
		forChoices([]int{math.MinInt, -1, 0, 1, 12, math.MaxInt}, length, nil, func(list []int) { expectOrder(t, list) })
	}
	for n := range 7 {
		for _, list := range sortedOrders(n) {
			order, ok := impl.OrderOf(list)
			expectList(t, fmt.Sprint("OrderOf ", list), order, ok, list)
			expectOrder(t, replaced(list, []int{math.MinInt, math.MinInt + 1, -7, 5, 6, math.MaxInt}))
		}
	}
	random := rand.New(rand.NewPCG(9, 2))
	for length := range 15 {
		for range 50 {
			list := make([]int, length)
			for i := range list {
				list[i] = int(random.Uint64())
			}
			expectOrder(t, list)
			expectOrder(t, random.Perm(length))
			if length > 1 {
				list[random.IntN(length)] = list[random.IntN(length)]
				expectOrder(t, list)
			}
		}
	}
}

func TestNamedOrders(t *testing.T) {
	order := func(list []int, want ...int) {
		t.Helper()
		got, ok := impl.OrderOf(list)
		expectList(t, fmt.Sprint("OrderOf ", list), got, ok, want)
	}
	order(nil)
	order([]int{})
	order([]int{7}, 0)
	order([]int{-7}, 0)
	order([]int{math.MinInt}, 0)
	order([]int{30, 10, 20}, 2, 0, 1)
	order([]int{math.MaxInt, math.MinInt}, 1, 0)
	order([]int{math.MinInt, math.MaxInt, 0}, 0, 2, 1)
	order(upTo(12), upTo(12)...)
	order(downFrom(12), downFrom(12)...)
	order([]int{110, 100, 90, 80, 70, 60, 50, 40, 30, 20, 10, 0}, downFrom(12)...)
	for _, list := range [][]int{
		{0, 0}, {7, 7}, {1, 2, 1}, {2, 1, 1}, {math.MaxInt, math.MaxInt}, {math.MinInt, 0, math.MinInt}, repeated(0, 12), append(upTo(11), 10), append(upTo(11), 0),
		upTo(13), downFrom(13), append(upTo(12), math.MaxInt), append([]int{math.MinInt}, upTo(12)...), repeated(0, 13), upTo(200), upTo(5000),
	} {
		got, ok := impl.OrderOf(list)
		expectNoList(t, fmt.Sprint("OrderOf ", list), got, ok)
	}
}

// TestShortOrderCycles tries all short words; there are order cycles among them, and words of the same length that are none.
func TestShortOrderCycles(t *testing.T) {
	for length := range 6 {
		for _, word := range wordsOf(length, 4) {
			for n := 1; n <= 5; n++ {
				expectOrders(t, n, word)
			}
		}
	}
	for length := range 4 {
		forChoices([]int{-1, 0, 1, 11, 12}, length, nil, func(word []int) { expectOrders(t, 2, word) })
	}
	count := 0
	for _, word := range wordsOf(6, 5) {
		if expectOrders(t, 3, word) {
			count++
		}
	}
	if count == 0 {
		t.Error("no order cycle of 3 of the numbers 0..4")
	}
	for _, word := range wordsOf(7, 4) {
		expectOrders(t, 3, word)
	}
}

func TestOrderCyclesWithMistakes(t *testing.T) {
	random := rand.New(rand.NewPCG(9, 3))
	for n, word := range map[int][]int{2: {0, 1}, 3: {0, 1, 2, 0, 3, 2}, 4: orderCycleOf4} {
		if !plainOrderCycle(n, word) {
			t.Fatalf("%v is no order cycle of %d", word, n)
		}
		for _, by := range [][]int{upTo(5), {1, 2, 3, 4, 5}, {7, 8, 9, 10, 11}, {0, 3, 4, 9, 11}, downFrom(5), {4, 6, 5, 8, 7}, {0, 0, 1, 2, 3}, {0, 1, 2, 3, 12}} {
			other := replaced(word, by)
			for place := range other {
				turned := plainWindow(other, len(other), place)
				expectOrders(t, n, turned)
				for size := -1; size <= 6; size++ {
					expectOrders(t, size, turned)
				}
			}
			for _, changed := range variationsOf(other) {
				expectOrders(t, n, changed)
			}
			for range 100 {
				changed := slices.Clone(other)
				changed[random.IntN(len(word))] = random.IntN(12)
				changed[random.IntN(len(word))] = random.IntN(12)
				expectOrders(t, n, changed)
			}
			expectOrders(t, n, slices.Repeat(other, 2))
		}
	}
}

func TestNamedOrderCycles(t *testing.T) {
	cycle := func(n int, want bool, word ...int) {
		t.Helper()
		got, ok := impl.IsOrderCycle(n, word)
		expectFact(t, fmt.Sprint("IsOrderCycle ", n, word), got, ok, want)
	}
	cycle(2, true, 0, 1)
	cycle(2, true, 1, 0)
	cycle(2, true, 11, 3)
	cycle(2, false, 4, 4)
	cycle(3, true, 0, 1, 2, 0, 3, 2)
	cycle(3, true, 2, 0, 1, 2, 0, 3)
	cycle(4, true, orderCycleOf4...)
	// Equal numbers side by side, one apart, and just so going round.
	cycle(3, false, 0, 1, 1, 0, 3, 2)
	cycle(3, false, 0, 1, 0, 2, 3, 2)
	cycle(3, false, 0, 1, 2, 0, 3, 0)
	cycle(3, false, 0, 1, 2, 3, 0, 1)
	// Permutations that come again, all numbers in a row being different.
	cycle(3, false, 0, 1, 2, 3, 4, 5)
	cycle(3, false, 0, 1, 2, 0, 1, 2)
	cycle(4, false, slices.Repeat([]int{0, 1, 2, 3}, 6)...)
	cycle(2, false)
	cycle(3, false)
	cycle(4, false)
	cycle(2, false, 0)
	cycle(2, false, 0, 1, 2)
	cycle(4, false, repeated(11, 200)...)
}

func TestOrderCycle(t *testing.T) {
	for n := 2; n <= 3; n++ {
		words := wordsOf(len(sortedOrders(n)), n+1)
		first := slices.IndexFunc(words, func(word []int) bool { return plainOrderCycle(n, word) })
		word, ok := impl.OrderCycle(n)
		expectList(t, fmt.Sprint("OrderCycle ", n), word, ok, words[first])
		got, ok := impl.IsOrderCycle(n, word)
		expectFact(t, fmt.Sprint("IsOrderCycle ", n, word), got, ok, true)
	}
	word, ok := impl.OrderCycle(2)
	expectList(t, "OrderCycle 2", word, ok, []int{0, 1})
	word, ok = impl.OrderCycle(3)
	expectList(t, "OrderCycle 3", word, ok, []int{0, 1, 2, 0, 3, 2})
}

func TestInvalidOrderCycles(t *testing.T) {
	for _, n := range []int{math.MinInt, -3, -1, 0, 1, 5, 6, 12, 13, math.MaxInt} {
		for _, word := range [][]int{nil, {}, {0}, {0, 1}, {0, 1, 2, 0, 3, 2}, orderCycleOf4, repeated(0, 120), repeated(0, 200)} {
			got, ok := impl.IsOrderCycle(n, word)
			expectNoFact(t, fmt.Sprint("IsOrderCycle ", n, word), got, ok)
		}
	}
	for _, n := range []int{math.MinInt, -3, -1, 0, 1, 4, 5, 6, 12, math.MaxInt} {
		word, ok := impl.OrderCycle(n)
		expectNoList(t, fmt.Sprint("OrderCycle ", n), word, ok)
	}
	for _, word := range noSuperWords {
		for n := 1; n <= 5; n++ {
			got, ok := impl.IsOrderCycle(n, word)
			expectNoFact(t, fmt.Sprint("IsOrderCycle ", n, word), got, ok)
		}
	}
}
