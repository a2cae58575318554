package tests

import (
	"fmt"
	"math"
	"testing"

	"loop.example/g01104/impl"
)

// mostSteps are numbers of steps around as many as there are, all of which are allowed.
func mostSteps(steps int) []int {
	var most []int
	for _, x := range []int{0, 1, steps - 1, steps, steps + 1, impl.MaxStates - 1, impl.MaxStates} {
		if 0 <= x && x <= impl.MaxStates {
			most = append(most, x)
		}
	}
	return most
}

var badMost = []int{math.MinInt, -1, impl.MaxStates + 1, math.MaxInt}

// differencesAlong returns the first index at which each list differs from the next one.
func differencesAlong(lists [][]int) []int {
	var differences []int
	for i := 1; i < len(lists); i++ {
		differences = append(differences, firstDifference(lists[i-1], lists[i]))
	}
	return differences
}

// checkRun holds that a run returns the beginnings of want, as long as told.
func checkRun(t *testing.T, name string, want []int, run func(most int) ([]int, bool)) {
	t.Helper()
	for _, most := range mostSteps(len(want)) {
		got, ok := run(most)
		expectList(t, fmt.Sprint(name, " ", most), got, ok, want[:min(most, len(want))])
	}
	for _, most := range badMost {
		got, ok := run(most)
		expectNoList(t, fmt.Sprint(name, " ", most), got, ok)
	}
}

func TestFocusRuns(t *testing.T) {
	for _, bases := range focusBases {
		want := differencesAlong(mirroredDigits(bases))
		checkRun(t, fmt.Sprint("RunFocus ", bases), want, func(most int) ([]int, bool) { return impl.RunFocus(bases, most) })
	}
}

// TestFocusRunsAreSteps holds runs against single steps, and these against the reflected list of chapter 2.
func TestFocusRunsAreSteps(t *testing.T) {
	for _, bases := range [][]int{{2, 3, 2, 4}, {5, 2, 12}, repeated(2, 8), {3, 3, 3, 3}} {
		run, _ := impl.RunFocus(bases, impl.MaxStates)
		f, _ := impl.StartFocus(bases)
		for r, want := range run {
			digits, at, ok := impl.NextMixed(bases, f.Digits)
			expectNumber(t, fmt.Sprint("the index of NextMixed ", f), at, ok, want)
			next, i, ok := impl.StepFocus(f)
			expectNumber(t, fmt.Sprint("the index of StepFocus ", f), i, ok, want)
			expectList(t, fmt.Sprint("the digits behind ", f), next.Digits, ok, digits)
			rank, ok := impl.MixedRank(bases, digits)
			expectNumber(t, fmt.Sprint("MixedRank ", digits), rank, ok, r+1)
			f = next
		}
		expectNoFocusStep(t, f)
	}
}

func TestTurns(t *testing.T) {
	for _, bases := range focusBases {
		want := make([]int, len(bases))
		for _, i := range differencesAlong(mirroredDigits(bases)) {
			want[i]++
		}
		turns, ok := impl.CountTurns(bases)
		expectList(t, fmt.Sprint("CountTurns ", bases), turns, ok, want)
	}
	turns, ok := impl.CountTurns([]int{7, 6, 5, 4, 3, 2})
	expectList(t, "CountTurns 7 6 5 4 3 2", turns, ok, []int{6, 35, 168, 630, 1680, 2520})
}

func TestSwapperRuns(t *testing.T) {
	for n := 1; n <= 7; n++ {
		want := differencesAlong(plainTrotter(n))
		checkRun(t, fmt.Sprint("RunSwapper ", n), want, func(most int) ([]int, bool) { return impl.RunSwapper(n, most) })
	}
}

// TestSwapperRunsAreSteps holds runs against single steps, and these against Trotter's list of chapter 4.
func TestSwapperRunsAreSteps(t *testing.T) {
	for n := 1; n <= 6; n++ {
		run, _ := impl.RunSwapper(n, impl.MaxStates)
		s, _ := impl.StartSwapper(n)
		for r, want := range run {
			list, at, ok := impl.NextTrotter(s.Items)
			expectNumber(t, fmt.Sprint("the index of NextTrotter ", s), at, ok, want)
			next, less, ok := impl.StepSwapper(s)
			expectNumber(t, fmt.Sprint("the index of StepSwapper ", s), less, ok, want)
			expectList(t, fmt.Sprint("the items behind ", s), next.Items, ok, list)
			rank, ok := impl.TrotterRank(list)
			expectNumber(t, fmt.Sprint("TrotterRank ", list), rank, ok, r+1)
			s = next
		}
		expectNoSwapperStep(t, s)
	}
}
