package tests

import (
	"fmt"
	"math"
	"math/rand/v2"
	"slices"
	"testing"

	"loop.example/g01104/impl"
)

func plainSpread(w []int, n int) int {
	var windows [][]int
	for place := range w {
		windows = append(windows, plainWindow(w, n, place))
	}
	least := n
	for a := range w {
		for b := range w {
			if a != b {
				least = min(least, countDifferences(windows[a], windows[b]))
			}
		}
	}
	return least
}

// plainSafe returns 0 where there is no safe length.
func plainSafe(w []int) int {
	for n := 1; n <= 64; n++ {
		if plainSpread(w, n) > 2 {
			return n
		}
	}
	return 0
}

func expectSpread(t *testing.T, w []int, n, want int) {
	t.Helper()
	spread, ok := impl.SpreadOf(w, n)
	expectNumber(t, fmt.Sprint("SpreadOf ", w, n), spread, ok, want)
}

// expectSafe expects a failure for the length 0.
func expectSafe(t *testing.T, w []int, want int) {
	t.Helper()
	length, ok := impl.SafeLength(w)
	if want == 0 {
		expectNoNumber(t, fmt.Sprint("SafeLength ", w), length, ok)
	} else {
		expectNumber(t, fmt.Sprint("SafeLength ", w), length, ok, want)
	}
}

// expectMended expects a failure unless just one window is near.
func expectMended(t *testing.T, w, window []int) {
	t.Helper()
	var near []int
	for place := range w {
		if countDifferences(plainWindow(w, len(window), place), window) <= 1 {
			near = append(near, place)
		}
	}
	if len(near) != 1 {
		expectNotMended(t, w, window)
		return
	}
	expectMendedAs(t, w, window, near[0], plainWindow(w, len(window), near[0]))
}

func expectMendedAs(t *testing.T, w, window []int, wantPlace int, want []int) {
	t.Helper()
	place, mended, ok := impl.MendWindow(w, window)
	expectNumber(t, fmt.Sprint("place of MendWindow ", w, window), place, ok, wantPlace)
	expectList(t, fmt.Sprint("MendWindow ", w, window), mended, ok, want)
}

func expectNotMended(t *testing.T, w, window []int) {
	t.Helper()
	place, mended, ok := impl.MendWindow(w, window)
	expectNoNumber(t, fmt.Sprint("place of MendWindow ", w, window), place, ok)
	expectNoList(t, fmt.Sprint("MendWindow ", w, window), mended, ok)
}

// withWrong returns a window with another letter at a place.
func withWrong(window []int, place int) []int {
	other := slices.Clone(window)
	other[place] = (other[place] + 1) % 6
	return other
}

func TestSpreads(t *testing.T) {
	for _, w := range append(shortCycles(), randomCycles(64)...) {
		if len(w) < 2 {
			continue
		}
		for _, n := range []int{1, 2, 3, 4, 5, 6, 9, 20, 63, 64} {
			expectSpread(t, w, n, plainSpread(w, n))
		}
	}
}

func TestSafeLengths(t *testing.T) {
	for _, w := range append(shortCycles(), randomCycles(20)...) {
		if len(w) > 1 {
			expectSafe(t, w, plainSafe(w))
		}
	}
}

// TestRegistersAreSafe uses that two windows of 2^n - 1 letters of a full register differ at 2^(n-1) places.
func TestRegistersAreSafe(t *testing.T) {
	for n := 2; n <= 6; n++ {
		w := plainRegister(map[int][]int{2: {0, 1}, 3: {0, 1}, 4: {0, 1}, 5: {0, 2}, 6: {0, 1}}[n], n)
		expectSpread(t, w, len(w), 1<<(n-1))
		expectSafe(t, w, plainSafe(w))
	}
}

func TestNamedSpreads(t *testing.T) {
	for n := 1; n <= 64; n++ {
		expectSpread(t, []int{0, 1}, n, n)
		expectSpread(t, []int{3, 3}, n, 0)
		expectSpread(t, repeated(5, 64), n, 0)
		expectSpread(t, []int{0, 1, 0, 1}, n, 0)
		expectSpread(t, upTo(6), n, n)
	}
	expectSpread(t, []int{0, 0, 1, 1}, 1, 0)
	expectSpread(t, []int{0, 0, 1, 1}, 2, 1)
	expectSpread(t, []int{0, 0, 1, 1}, 4, 2)
	tape := append(repeated(0, 63), 1)
	expectSpread(t, tape, 62, 0)
	expectSpread(t, tape, 63, 1)
	expectSpread(t, tape, 64, 2)
}

func TestNamedSafeLengths(t *testing.T) {
	expectSafe(t, []int{0, 1}, 3)
	expectSafe(t, upTo(6), 3)
	expectSafe(t, []int{0, 0, 1, 1}, 6)
	for _, w := range [][]int{{4, 4}, {0, 1, 0, 1}, repeated(0, 64), slices.Repeat([]int{0, 1}, 32), slices.Repeat([]int{0, 0, 1, 2}, 16), append(repeated(0, 63), 1)} {
		expectSafe(t, w, 0)
	}
	// A 1 among n - 1 zeros needs 2 n - 1 letters, so that the windows of 65 letters would be the first safe ones of 33.
	expectSafe(t, append(repeated(0, 31), 1), 63)
	expectSafe(t, append(repeated(0, 32), 1), 0)
	expectSafe(t, append(repeated(0, 62), 1, 2), 64)
}

func TestInvalidSpreads(t *testing.T) {
	fails := func(w []int, n int) {
		t.Helper()
		spread, ok := impl.SpreadOf(w, n)
		expectNoNumber(t, fmt.Sprint("SpreadOf ", w, n), spread, ok)
	}
	for _, w := range append(noCycles, []int{0}, []int{5}, repeated(0, 65), slices.Repeat(upTo(5), 13), repeated(0, 1024), repeated(0, 1025)) {
		fails(w, 1)
		fails(w, 3)
		fails(w, 64)
		expectSafe(t, w, 0)
	}
	for _, n := range []int{math.MinInt, -1, 0, 65, 1024, math.MaxInt} {
		fails([]int{0, 1}, n)
		fails(append(repeated(0, 63), 1), n)
		fails([]int{0}, n)
	}
}

func TestAllShortWindowsMended(t *testing.T) {
	windows := slices.Concat(wordsOf(1, 3), wordsOf(2, 3), wordsOf(3, 3), wordsOf(4, 3), wordsOf(5, 2), wordsOf(7, 2))
	for _, w := range shortCycles() {
		for _, window := range windows {
			expectMended(t, w, window)
		}
	}
}

// TestWrongLetters changes no letter, one letter and two letters of windows.
func TestWrongLetters(t *testing.T) {
	random := rand.New(rand.NewPCG(8, 8))
	for _, w := range randomCycles(64) {
		for _, n := range []int{2, 3, 5, 8, len(w), 64, 100} {
			window := plainWindow(w, n, random.IntN(len(w)))
			once := withWrong(window, random.IntN(n))
			expectMended(t, w, window)
			expectMended(t, w, once)
			expectMended(t, w, withWrong(once, random.IntN(n)))
		}
	}
}

// TestSafeWindowsAreMended wants each window of a safe length back from each of its letters that is wrong.
func TestSafeWindowsAreMended(t *testing.T) {
	for _, w := range append(randomCycles(64), append(repeated(0, 62), 1, 2)) {
		n, ok := impl.SafeLength(w)
		if !ok {
			continue
		}
		for place := range w {
			window := plainWindow(w, n, place)
			expectMendedAs(t, w, window, place, window)
			for wrong := range window {
				expectMendedAs(t, w, withWrong(window, wrong), place, window)
			}
		}
	}
}

func TestNamedMending(t *testing.T) {
	expectMendedAs(t, []int{3}, []int{3}, 0, []int{3})
	expectMendedAs(t, []int{3}, []int{0}, 0, []int{3})
	expectMendedAs(t, []int{3}, []int{3, 0, 3}, 0, []int{3, 3, 3})
	expectNotMended(t, []int{3}, []int{3, 0, 0})
	expectNotMended(t, []int{3}, []int{0, 0})
	// Each window of one letter differs from each other one in at most one letter.
	expectNotMended(t, []int{0, 1}, []int{0})
	expectNotMended(t, []int{0, 1}, []int{5})
	expectMendedAs(t, []int{0, 1}, []int{1, 0}, 1, []int{1, 0})
	expectNotMended(t, []int{0, 1}, []int{1, 1})
	expectMendedAs(t, []int{0, 1}, []int{1, 1, 1}, 1, []int{1, 0, 1})
	expectNotMended(t, []int{0, 1}, []int{2, 2, 2})
	expectNotMended(t, []int{0, 1, 0, 1}, []int{0, 1, 0})
	expectNotMended(t, []int{2, 2}, []int{2, 2, 2, 2})
	expectMendedAs(t, []int{0, 1, 2, 3}, []int{3, 0, 0}, 3, []int{3, 0, 1})
	expectNotMended(t, []int{0, 1, 2, 3}, []int{3, 3, 3})
}

func TestLimitsOfMending(t *testing.T) {
	tape := append(repeated(0, 62), 1, 2)
	for place := range tape {
		expectMendedAs(t, tape, withWrong(plainWindow(tape, 64, place), place), place, plainWindow(tape, 64, place))
		window := plainWindow(tape, 1024, place)
		expectMendedAs(t, tape, withWrong(window, 1023), place, window)
		expectNotMended(t, tape, withWrong(withWrong(window, 0), 1023))
		expectNotMended(t, tape, plainWindow(tape, 1025, place))
	}
	expectMendedAs(t, []int{5}, append(repeated(5, 1023), 4), 0, repeated(5, 1024))
	expectNotMended(t, []int{5}, repeated(5, 1025))
	expectNotMended(t, append(tape, 3), plainWindow(append(tape, 3), 65, 0))
}

func TestInvalidMending(t *testing.T) {
	for _, bad := range append(noCycles, repeated(0, 1025)) {
		for _, w := range [][]int{{0}, {0, 1}, {0, 1, 2}, append(repeated(0, 63), 1)} {
			expectNotMended(t, bad, w)
			expectNotMended(t, w, bad)
		}
		expectNotMended(t, bad, bad)
	}
	// One wrong letter that is no letter is not mended.
	expectNotMended(t, []int{0, 1, 2}, []int{0, 1, 2, 6})
	expectNotMended(t, []int{0, 1, 2}, []int{0, 1, 2, -1})
	for _, w := range [][]int{append([]int{1}, repeated(0, 64)...), slices.Repeat(upTo(5), 13), append(repeated(0, 1023), 1)} {
		expectNotMended(t, w, plainWindow(w, 64, 0))
		expectNotMended(t, w, plainWindow(w, len(w), 0))
	}
}
