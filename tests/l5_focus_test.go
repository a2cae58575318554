package tests

import (
	"fmt"
	"math"
	"slices"
	"testing"

	"loop.example/g01104/impl"
)

// sleeping tells for each place whether its digit with the index r of the reflected list has gone all its way, and waits until one before it changes.
func sleeping(bases []int, r int) []bool {
	var asleep []bool
	for _, base := range slices.Backward(bases) {
		asleep = append(asleep, r%base == base-1)
		r /= base
	}
	return asleep
}

// plainPointers points from the first place of each row of sleeping ones to the next one that is awake, and from all other places to themselves.
func plainPointers(asleep []bool) []int {
	pointers := upTo(len(asleep) + 1)
	for j := range asleep {
		if asleep[j] && (j == 0 || !asleep[j-1]) {
			for to := j; to < len(asleep) && asleep[to]; to++ {
				pointers[j] = to + 1
			}
		}
	}
	return pointers
}

// plainUp tells for each digit whether it rises when it changes the next time.
func plainUp(bases []int, r int) []bool {
	var up []bool
	for _, base := range slices.Backward(bases) {
		rises := r/base%2 == 0
		up = append(up, rises != (r%base == base-1))
		r /= base
	}
	slices.Reverse(up)
	return up
}

// plainFocuses finds each state from its index alone, without steps.
func plainFocuses(bases []int) []impl.Focus {
	var all []impl.Focus
	for r, digits := range mirroredDigits(bases) {
		all = append(all, impl.Focus{Bases: bases, Digits: digits, Up: plainUp(bases, r), Pointers: plainPointers(sleeping(bases, r))})
	}
	return all
}

// startLike is what the start would be if any numbers were bases.
func startLike(bases []int) impl.Focus {
	up := make([]bool, len(bases))
	for i := range up {
		up[i] = true
	}
	return impl.Focus{Bases: bases, Digits: make([]int, len(bases)), Up: up, Pointers: upTo(len(bases) + 1)}
}

func sameFocus(a, b impl.Focus) bool {
	return slices.Equal(a.Bases, b.Bases) && slices.Equal(a.Digits, b.Digits) && slices.Equal(a.Up, b.Up) && slices.Equal(a.Pointers, b.Pointers)
}

func expectFocus(t *testing.T, what string, got impl.Focus, ok bool, want impl.Focus) {
	t.Helper()
	if !ok || !sameFocus(got, want) {
		t.Errorf("%s: %v, %v instead of %v, true", what, got, ok, want)
	}
}

func expectNoFocus(t *testing.T, what string, got impl.Focus, ok bool) {
	t.Helper()
	if ok || !sameFocus(got, impl.Focus{}) {
		t.Errorf("%s: %v, %v instead of nothing, false", what, got, ok)
	}
}

func expectNoFocusStep(t *testing.T, f impl.Focus) {
	t.Helper()
	next, i, ok := impl.StepFocus(f)
	expectNoFocus(t, fmt.Sprint("StepFocus ", f), next, ok)
	expectNoNumber(t, fmt.Sprint("the index of StepFocus ", f), i, ok)
}

// checkFocus holds what is told of the focus with the index r of all, except the step to the next one.
func checkFocus(t *testing.T, all []impl.Focus, r int) {
	t.Helper()
	f := all[r]
	if !impl.IsFocus(f) {
		t.Errorf("IsFocus %v is false", f)
	}
	rank, ok := impl.FocusRank(f)
	expectNumber(t, fmt.Sprint("FocusRank ", f), rank, ok, r)
	last, ok := impl.IsLastFocus(f)
	expectFact(t, fmt.Sprint("IsLastFocus ", f), last, ok, r+1 == len(all))
	at, ok := impl.FocusAt(f.Bases, r)
	expectFocus(t, fmt.Sprint("FocusAt ", f.Bases, r), at, ok, f)
}

func checkFocusStep(t *testing.T, all []impl.Focus, r int) {
	t.Helper()
	if r+1 == len(all) {
		expectNoFocusStep(t, all[r])
		return
	}
	next, i, ok := impl.StepFocus(all[r])
	name := fmt.Sprint("StepFocus ", all[r])
	expectFocus(t, name, next, ok, all[r+1])
	expectNumber(t, "the index of "+name, i, ok, firstDifference(all[r].Digits, all[r+1].Digits))
}

// expectInvalidFocus holds that all functions refuse f.
func expectInvalidFocus(t *testing.T, f impl.Focus) {
	t.Helper()
	if impl.IsFocus(f) {
		t.Errorf("IsFocus %v is true", f)
	}
	expectNoFocusStep(t, f)
	rank, ok := impl.FocusRank(f)
	expectNoNumber(t, fmt.Sprint("FocusRank ", f), rank, ok)
	last, ok := impl.IsLastFocus(f)
	expectNoFact(t, fmt.Sprint("IsLastFocus ", f), last, ok)
}

// focusBases have products up to exactly MaxStates.
var focusBases = [][]int{
	nil, {2}, {3}, {12}, {2, 2}, {2, 3}, {3, 2}, {3, 3}, {12, 2}, {2, 12}, {2, 2, 2}, {3, 2, 4}, {4, 3, 2}, {2, 3, 2, 4, 3}, {3, 3, 3, 3}, {5, 2, 12},
	repeated(2, 12), {2, 3, 4, 5, 6, 7}, {7, 6, 5, 4, 3, 2}, {12, 12, 7, 5}, {10, 12, 6, 7},
}

// tooManyStates are bases of chapter 1 whose products are greater than MaxStates: the least one, and greater ones.
var tooManyStates = [][]int{{6, 7, 11, 11}, {12, 12, 12, 3}, {2, 3, 4, 5, 6, 7, 2}, {2, 3, 4, 5, 6, 8}, append(repeated(2, 11), 3), repeated(3, 12), repeated(10, 6), {2, 3, 4, 5, 6, 7, 8}}

func TestFocusExample(t *testing.T) {
	bases := []int{2, 3}
	states := []impl.Focus{
		{Bases: bases, Digits: []int{0, 0}, Up: []bool{true, true}, Pointers: []int{0, 1, 2}},
		{Bases: bases, Digits: []int{0, 1}, Up: []bool{true, true}, Pointers: []int{0, 1, 2}},
		{Bases: bases, Digits: []int{0, 2}, Up: []bool{true, false}, Pointers: []int{1, 1, 2}},
		{Bases: bases, Digits: []int{1, 2}, Up: []bool{false, false}, Pointers: []int{0, 2, 2}},
		{Bases: bases, Digits: []int{1, 1}, Up: []bool{false, false}, Pointers: []int{0, 2, 2}},
		{Bases: bases, Digits: []int{1, 0}, Up: []bool{false, true}, Pointers: []int{2, 1, 2}},
	}
	for r := range states {
		checkFocus(t, states, r)
		checkFocusStep(t, states, r)
	}
	changes, ok := impl.RunFocus(bases, 9)
	expectList(t, "RunFocus", changes, ok, []int{1, 1, 0, 1, 1})
	turns, ok := impl.CountTurns(bases)
	expectList(t, "CountTurns", turns, ok, []int{1, 4})
	if impl.MaxStates != 5040 {
		t.Errorf("MaxStates is %d", impl.MaxStates)
	}
}

func TestAllFocuses(t *testing.T) {
	for _, bases := range focusBases {
		all := plainFocuses(bases)
		start, ok := impl.StartFocus(bases)
		expectFocus(t, fmt.Sprint("StartFocus ", bases), start, ok, all[0])
		expectFocus(t, fmt.Sprint("the start of ", bases), startLike(bases), true, all[0])
		for r := range all {
			checkFocus(t, all, r)
			checkFocusStep(t, all, r)
		}
		for _, r := range []int{len(all), len(all) + 1, -1, math.MinInt, math.MaxInt} {
			at, ok := impl.FocusAt(bases, r)
			expectNoFocus(t, fmt.Sprint("FocusAt ", bases, r), at, ok)
		}
	}
}

func TestFocusWithoutBases(t *testing.T) {
	only := impl.Focus{Pointers: []int{0}}
	for _, bases := range [][]int{nil, {}} {
		start, ok := impl.StartFocus(bases)
		expectFocus(t, "StartFocus of no bases", start, ok, only)
		at, ok := impl.FocusAt(bases, 0)
		expectFocus(t, "FocusAt of no bases", at, ok, only)
		at, ok = impl.FocusAt(bases, 1)
		expectNoFocus(t, "FocusAt of no bases behind a step", at, ok)
		for _, most := range []int{0, 1, impl.MaxStates} {
			changes, ok := impl.RunFocus(bases, most)
			expectList(t, "RunFocus of no bases", changes, ok, nil)
		}
		turns, ok := impl.CountTurns(bases)
		expectList(t, "CountTurns of no bases", turns, ok, nil)
	}
	checkFocus(t, []impl.Focus{only}, 0)
	expectNoFocusStep(t, only)
	checkFocus(t, []impl.Focus{{Bases: []int{}, Digits: []int{}, Up: []bool{}, Pointers: []int{0}}}, 0)
	expectInvalidFocus(t, impl.Focus{})
	expectInvalidFocus(t, impl.Focus{Pointers: []int{1}})
	expectInvalidFocus(t, impl.Focus{Pointers: []int{-1}})
	expectInvalidFocus(t, impl.Focus{Pointers: []int{0, 1}})
	expectInvalidFocus(t, impl.Focus{Digits: []int{0}, Pointers: []int{0}})
	expectInvalidFocus(t, impl.Focus{Up: []bool{true}, Pointers: []int{0}})
}

func TestInvalidFocusBases(t *testing.T) {
	for _, bases := range slices.Concat(badBases, tooManyStates) {
		name := fmt.Sprint(bases)
		start, ok := impl.StartFocus(bases)
		expectNoFocus(t, "StartFocus "+name, start, ok)
		at, ok := impl.FocusAt(bases, 0)
		expectNoFocus(t, "FocusAt "+name, at, ok)
		changes, ok := impl.RunFocus(bases, 0)
		expectNoList(t, "RunFocus "+name, changes, ok)
		turns, ok := impl.CountTurns(bases)
		expectNoList(t, "CountTurns "+name, turns, ok)
		expectInvalidFocus(t, startLike(bases))
	}
}
