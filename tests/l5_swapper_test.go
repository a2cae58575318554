package tests

import (
	"fmt"
	"math"
	"slices"
	"testing"

	"loop.example/g01104/impl"
)

func plainWhere(items []int) []int {
	where := make([]int, len(items))
	for i, x := range items {
		where[x] = i
	}
	return where
}

// swapperBases are 2, .., n.
func swapperBases(n int) []int { return upTo(n + 1)[2:] }

// plainSwappers joins the states of the focus with Trotter's list.
func plainSwappers(n int) []impl.Swapper {
	items := plainTrotter(n)
	var all []impl.Swapper
	for r, f := range plainFocuses(swapperBases(n)) {
		all = append(all, impl.Swapper{Focus: f, Items: items[r], Where: plainWhere(items[r])})
	}
	return all
}

func sameSwapper(a, b impl.Swapper) bool {
	return sameFocus(a.Focus, b.Focus) && slices.Equal(a.Items, b.Items) && slices.Equal(a.Where, b.Where)
}

func expectSwapper(t *testing.T, what string, got impl.Swapper, ok bool, want impl.Swapper) {
	t.Helper()
	if !ok || !sameSwapper(got, want) {
		t.Errorf("%s: %v, %v instead of %v, true", what, got, ok, want)
	}
}

func expectNoSwapper(t *testing.T, what string, got impl.Swapper, ok bool) {
	t.Helper()
	if ok || !sameSwapper(got, impl.Swapper{}) {
		t.Errorf("%s: %v, %v instead of nothing, false", what, got, ok)
	}
}

func expectNoSwapperStep(t *testing.T, s impl.Swapper) {
	t.Helper()
	next, less, ok := impl.StepSwapper(s)
	expectNoSwapper(t, fmt.Sprint("StepSwapper ", s), next, ok)
	expectNoNumber(t, fmt.Sprint("the index of StepSwapper ", s), less, ok)
}

// checkSwapper holds what is told of the swapper with the index r of all.
func checkSwapper(t *testing.T, all []impl.Swapper, r int) {
	t.Helper()
	s := all[r]
	if !impl.IsSwapper(s) {
		t.Errorf("IsSwapper %v is false", s)
	}
	rank, ok := impl.SwapperRank(s)
	expectNumber(t, fmt.Sprint("SwapperRank ", s), rank, ok, r)
	at, ok := impl.SwapperAt(len(s.Items), r)
	expectSwapper(t, fmt.Sprint("SwapperAt ", len(s.Items), r), at, ok, s)
	if r+1 == len(all) {
		expectNoSwapperStep(t, s)
		return
	}
	next, less, ok := impl.StepSwapper(s)
	name := fmt.Sprint("StepSwapper ", s)
	expectSwapper(t, name, next, ok, all[r+1])
	expectNumber(t, "the index of "+name, less, ok, firstDifference(s.Items, all[r+1].Items))
}

// expectInvalidSwapper holds that all functions refuse s.
func expectInvalidSwapper(t *testing.T, s impl.Swapper) {
	t.Helper()
	if impl.IsSwapper(s) {
		t.Errorf("IsSwapper %v is true", s)
	}
	expectNoSwapperStep(t, s)
	rank, ok := impl.SwapperRank(s)
	expectNoNumber(t, fmt.Sprint("SwapperRank ", s), rank, ok)
}

func TestSwapperExample(t *testing.T) {
	items := [][]int{{0, 1, 2}, {0, 2, 1}, {2, 0, 1}, {2, 1, 0}, {1, 2, 0}, {1, 0, 2}}
	where := [][]int{{0, 1, 2}, {0, 2, 1}, {1, 2, 0}, {2, 1, 0}, {2, 0, 1}, {1, 0, 2}}
	var all []impl.Swapper
	for r, f := range plainFocuses([]int{2, 3}) {
		all = append(all, impl.Swapper{Focus: f, Items: items[r], Where: where[r]})
	}
	for r := range all {
		checkSwapper(t, all, r)
	}
	exchanges, ok := impl.RunSwapper(3, 9)
	expectList(t, "RunSwapper", exchanges, ok, []int{1, 0, 1, 0, 1})
}

func TestAllSwappers(t *testing.T) {
	for n := 1; n <= 7; n++ {
		all := plainSwappers(n)
		start, ok := impl.StartSwapper(n)
		expectSwapper(t, fmt.Sprint("StartSwapper ", n), start, ok, all[0])
		expectSwapper(t, fmt.Sprint("the start of ", n), impl.Swapper{Focus: startLike(swapperBases(n)), Items: upTo(n), Where: upTo(n)}, true, all[0])
		for r := range all {
			checkSwapper(t, all, r)
		}
		for _, r := range []int{len(all), len(all) + 1, -1, math.MinInt, math.MaxInt} {
			at, ok := impl.SwapperAt(n, r)
			expectNoSwapper(t, fmt.Sprint("SwapperAt ", n, r), at, ok)
		}
	}
}

func TestSwapperForOne(t *testing.T) {
	only := impl.Swapper{Focus: impl.Focus{Pointers: []int{0}}, Items: []int{0}, Where: []int{0}}
	start, ok := impl.StartSwapper(1)
	expectSwapper(t, "StartSwapper 1", start, ok, only)
	checkSwapper(t, []impl.Swapper{only}, 0)
	for _, most := range []int{0, 1, impl.MaxStates} {
		exchanges, ok := impl.RunSwapper(1, most)
		expectList(t, "RunSwapper 1", exchanges, ok, nil)
	}
	expectInvalidSwapper(t, impl.Swapper{})
	expectInvalidSwapper(t, impl.Swapper{Focus: only.Focus})
	expectInvalidSwapper(t, impl.Swapper{Items: []int{0}, Where: []int{0}})
	expectInvalidSwapper(t, impl.Swapper{Focus: only.Focus, Items: []int{1}, Where: []int{0}})
	expectInvalidSwapper(t, impl.Swapper{Focus: only.Focus, Items: []int{0}, Where: []int{1}})
	expectInvalidSwapper(t, impl.Swapper{Focus: only.Focus, Items: []int{1}, Where: []int{1}})
	expectInvalidSwapper(t, impl.Swapper{Focus: only.Focus, Items: []int{0, 1}, Where: []int{0, 1}})
}

func TestInvalidSwapperNumbers(t *testing.T) {
	for _, n := range []int{math.MinInt, -1, 0, 8, 12, 13, math.MaxInt} {
		start, ok := impl.StartSwapper(n)
		expectNoSwapper(t, fmt.Sprint("StartSwapper ", n), start, ok)
		at, ok := impl.SwapperAt(n, 0)
		expectNoSwapper(t, fmt.Sprint("SwapperAt ", n, 0), at, ok)
		exchanges, ok := impl.RunSwapper(n, 0)
		expectNoList(t, fmt.Sprint("RunSwapper ", n, 0), exchanges, ok)
	}
	for _, n := range []int{8, 12, 13, 20} {
		expectInvalidSwapper(t, impl.Swapper{Focus: startLike(swapperBases(n)), Items: upTo(n), Where: upTo(n)})
		expectInvalidSwapper(t, impl.Swapper{Focus: startLike(repeated(2, n-1)), Items: upTo(n), Where: upTo(n)})
	}
}

// TestSwappersWithPartsOfOthers takes the focus from one state and the items from another one.
func TestSwappersWithPartsOfOthers(t *testing.T) {
	for n := 1; n <= 4; n++ {
		all := plainSwappers(n)
		for _, a := range all {
			for _, b := range all {
				mixed := impl.Swapper{Focus: a.Focus, Items: b.Items, Where: b.Where}
				if !sameSwapper(mixed, a) {
					expectInvalidSwapper(t, mixed)
				}
				if mixed = (impl.Swapper{Focus: a.Focus, Items: a.Items, Where: b.Where}); !sameSwapper(mixed, a) {
					expectInvalidSwapper(t, mixed)
				}
				if mixed = (impl.Swapper{Focus: a.Focus, Items: b.Items, Where: a.Where}); !sameSwapper(mixed, a) {
					expectInvalidSwapper(t, mixed)
				}
			}
		}
	}
}

// TestSwappersWithOtherBases has valid focuses that no swapper has.
func TestSwappersWithOtherBases(t *testing.T) {
	for _, bases := range [][]int{{3}, {2, 2}, {3, 2}, {3, 3}, {2, 4}, {4, 3, 2}, {2, 3, 5}, {2, 3, 4, 5, 6, 6}, {7, 6, 5, 4, 3, 2}, repeated(2, 6), repeated(2, 7), repeated(2, 12)} {
		n := len(bases) + 1
		focuses := plainFocuses(bases)
		for _, f := range []impl.Focus{focuses[0], focuses[1], focuses[len(focuses)-1]} {
			for _, items := range [][]int{upTo(n), append(upTo(n-2), n-1, n-2), append([]int{1, 0}, upTo(n)[2:]...)} {
				expectInvalidSwapper(t, impl.Swapper{Focus: f, Items: items, Where: plainWhere(items)})
			}
			expectInvalidSwapper(t, impl.Swapper{Focus: f})
		}
	}
	for n := 2; n <= 7; n++ {
		start := plainSwappers(n)[0]
		less, more := plainSwappers(n - 1)[0], impl.Swapper{Items: upTo(n + 1), Where: upTo(n + 1)}
		expectInvalidSwapper(t, impl.Swapper{Focus: start.Focus, Items: less.Items, Where: less.Where})
		expectInvalidSwapper(t, impl.Swapper{Focus: less.Focus, Items: start.Items, Where: start.Where})
		expectInvalidSwapper(t, impl.Swapper{Focus: start.Focus, Items: more.Items, Where: more.Where})
	}
}
