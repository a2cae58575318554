package tests

import (
	"fmt"
	"slices"
	"testing"

	"loop.example/g01104/impl"
)

// focusLists are how many lists of numbers a focus has, and swapperLists how many a swapper has.
const (
	focusLists   = 3
	swapperLists = 5
)

func partsOfFocus(f impl.Focus) []any {
	return []any{f.Bases, f.Digits, f.Pointers, slices.Clone(f.Up)}
}

func partsOfSwapper(s impl.Swapper) []any {
	return append(partsOfFocus(s.Focus), s.Items, s.Where)
}

// listsOf is what focusOf and swapperOf undo, but for Up.
func listsOf(s impl.Swapper) [][]int {
	return [][]int{s.Focus.Bases, s.Focus.Digits, s.Focus.Pointers, s.Items, s.Where}
}

func focusOf(lists [][]int, up []bool) impl.Focus {
	return impl.Focus{Bases: lists[0], Digits: lists[1], Pointers: lists[2], Up: up}
}

func swapperOf(lists [][]int, up []bool) impl.Swapper {
	return impl.Swapper{Focus: focusOf(lists, up), Items: lists[3], Where: lists[4]}
}

// startCalls take no focus; ok stands last in each result.
var startCalls = []call{
	{"StartFocus", 0, 1, func(_ []int, l [][]int) []any { x, ok := impl.StartFocus(l[0]); return append(partsOfFocus(x), ok) }},
	{"FocusAt", 1, 1, func(n []int, l [][]int) []any {
		x, ok := impl.FocusAt(l[0], n[0])
		return append(partsOfFocus(x), ok)
	}},
	{"RunFocus", 1, 1, func(n []int, l [][]int) []any { x, ok := impl.RunFocus(l[0], n[0]); return []any{x, ok} }},
	{"CountTurns", 0, 1, func(_ []int, l [][]int) []any { x, ok := impl.CountTurns(l[0]); return []any{x, ok} }},
	{"StartSwapper", 1, 0, func(n []int, _ [][]int) []any { x, ok := impl.StartSwapper(n[0]); return append(partsOfSwapper(x), ok) }},
	{"SwapperAt", 2, 0, func(n []int, _ [][]int) []any {
		x, ok := impl.SwapperAt(n[0], n[1])
		return append(partsOfSwapper(x), ok)
	}},
	{"RunSwapper", 2, 0, func(n []int, _ [][]int) []any { x, ok := impl.RunSwapper(n[0], n[1]); return []any{x, ok} }},
}

// stateCall is a function that takes a focus or a swapper. It also returns the Up of its result, so that its memory can be spoilt.
type stateCall struct {
	name  string
	lists int
	run   func(lists [][]int, up []bool) ([]bool, []any)
}

var stateCalls = []stateCall{
	{"IsFocus", focusLists, func(l [][]int, up []bool) ([]bool, []any) { return nil, []any{impl.IsFocus(focusOf(l, up))} }},
	{"StepFocus", focusLists, func(l [][]int, up []bool) ([]bool, []any) {
		x, i, ok := impl.StepFocus(focusOf(l, up))
		return x.Up, append(partsOfFocus(x), i, ok)
	}},
	{"IsLastFocus", focusLists, func(l [][]int, up []bool) ([]bool, []any) {
		x, ok := impl.IsLastFocus(focusOf(l, up))
		return nil, []any{x, ok}
	}},
	{"FocusRank", focusLists, func(l [][]int, up []bool) ([]bool, []any) {
		x, ok := impl.FocusRank(focusOf(l, up))
		return nil, []any{x, ok}
	}},
	{"IsSwapper", swapperLists, func(l [][]int, up []bool) ([]bool, []any) { return nil, []any{impl.IsSwapper(swapperOf(l, up))} }},
	{"StepSwapper", swapperLists, func(l [][]int, up []bool) ([]bool, []any) {
		x, i, ok := impl.StepSwapper(swapperOf(l, up))
		return x.Focus.Up, append(partsOfSwapper(x), i, ok)
	}},
	{"SwapperRank", swapperLists, func(l [][]int, up []bool) ([]bool, []any) {
		x, ok := impl.SwapperRank(swapperOf(l, up))
		return nil, []any{x, ok}
	}},
}

func turnAll(up []bool) {
	whole := up[:cap(up)]
	for i := range whole {
		whole[i] = !whole[i]
	}
}

// keepingUp runs a function with an Up that has spare capacity, and looks whether this or any of it changes, also when the Up of the result does.
func keepingUp(t *testing.T, c stateCall, up []bool) call {
	return call{name: fmt.Sprint(c.name, " with Up ", up), lists: c.lists, run: func(_ []int, lists [][]int) []any {
		memory := append(slices.Clone(up), true, false, true)
		before := slices.Clone(memory)
		upBehind, results := c.run(lists, memory[:len(up)])
		if !slices.Equal(memory, before) {
			t.Errorf("%s %v: Up or its spare capacity is changed", c.name, lists)
		}
		turnAll(upBehind)
		if !slices.Equal(memory, before) {
			t.Errorf("%s %v: Up of the result shares memory with the argument", c.name, lists)
		}
		return results
	}}
}

// usualSwappers are valid, and no swapper, but with a valid focus; both at the start, on the way and at the end.
func usualSwappers() []impl.Swapper {
	var usual []impl.Swapper
	for _, n := range []int{1, 2, 3, 4, 7} {
		all := plainSwappers(n)
		usual = append(usual, all[0], all[len(all)/2], all[len(all)-1])
	}
	for _, bases := range [][]int{{12}, {3, 2}, repeated(2, 12), {12, 12, 7, 5}} {
		all := plainFocuses(bases)
		items := upTo(len(bases) + 1)
		for _, f := range []impl.Focus{all[0], all[len(all)/2], all[len(all)-1]} {
			usual = append(usual, impl.Swapper{Focus: f, Items: items, Where: items})
		}
	}
	return usual
}

// checkStateArguments puts hostile lists in the place of each list of usual states, and in all places.
func checkStateArguments(t *testing.T, c stateCall) {
	for _, s := range usualSwappers() {
		usual := listsOf(s)[:c.lists]
		checkCall(t, keepingUp(t, c, s.Focus.Up), nil, usual)
		for at := range usual {
			for _, list := range hostileLists {
				changed := slices.Clone(usual)
				changed[at] = list
				checkCall(t, keepingUp(t, c, s.Focus.Up), nil, changed)
			}
		}
		for _, up := range [][]bool{nil, {}, {true}, {false}, {false, false}, slices.Repeat([]bool{true}, 5000)} {
			checkCall(t, keepingUp(t, c, up), nil, usual)
		}
	}
	for _, list := range hostileLists {
		for _, up := range [][]bool{make([]bool, len(list)), slices.Repeat([]bool{true}, len(list))} {
			checkCall(t, keepingUp(t, c, up), nil, slices.Repeat([][]int{list}, c.lists))
		}
	}
}

func TestFocusArguments(t *testing.T) {
	for _, c := range startCalls {
		t.Run(c.name, func(t *testing.T) { checkArguments(t, c) })
	}
	for _, c := range stateCalls {
		t.Run(c.name, func(t *testing.T) { checkStateArguments(t, c) })
	}
}

// TestStatesOfCallsAreApart spoils the Up of one result, which must not show in another one.
func TestStatesOfCallsAreApart(t *testing.T) {
	first, _ := impl.FocusAt([]int{2, 3}, 2)
	turnAll(first.Up)
	second, ok := impl.FocusAt([]int{2, 3}, 2)
	expectFocus(t, "FocusAt again", second, ok, plainFocuses([]int{2, 3})[2])
	one, _ := impl.SwapperAt(3, 2)
	turnAll(one.Focus.Up)
	other, ok := impl.SwapperAt(3, 2)
	expectSwapper(t, "SwapperAt again", other, ok, plainSwappers(3)[2])
}
