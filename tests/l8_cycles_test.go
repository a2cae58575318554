package tests

import (
	"fmt"
	"math"
	"math/rand/v2"
	"slices"
	"testing"

	"loop.example/g01104/impl"
)

// noCycles are no windows, either.
var noCycles = [][]int{
	nil, {}, {-1}, {6}, {math.MinInt}, {math.MaxInt}, {0, 6}, {6, 0}, {0, -1}, {-1, 0}, {0, 1, 2, 3, 4, 5, 6}, {0, 1, math.MaxInt}, {math.MinInt, 1},
	repeated(0, 1025), repeated(5, 1025), repeated(1, 5000), append(repeated(0, 1023), 6), append(repeated(0, 1023), -1), append([]int{6}, repeated(0, 1023)...), append(repeated(0, 1024), 1),
}

// plainWindow goes from letter to letter.
func plainWindow(w []int, n, place int) []int {
	var window []int
	for len(window) < n {
		window = append(window, w[place])
		place++
		if place == len(w) {
			place = 0
		}
	}
	return window
}

func plainPlaces(w, window []int) []int {
	var places []int
	for place := range w {
		if slices.Equal(plainWindow(w, len(window), place), window) {
			places = append(places, place)
		}
	}
	return places
}

// randomLetters returns the same letters in each run.
func randomLetters(random *rand.Rand, length, k int) []int {
	letters := make([]int, length)
	for i := range letters {
		letters[i] = random.IntN(k)
	}
	return letters
}

// randomCycles are cycles of some of the lengths up to a greatest one, which is among them, and powers of short ones.
func randomCycles(most int) [][]int {
	random := rand.New(rand.NewPCG(8, uint64(most)))
	var cycles [][]int
	for _, length := range []int{1, 2, 3, 5, 8, 17, 32, 33, most - 1, most} {
		for k := 1; k <= 6; k++ {
			cycles = append(cycles, randomLetters(random, length, k))
		}
	}
	for k := 2; k <= 6; k++ {
		root := randomLetters(random, k, k)
		cycles = append(cycles, slices.Repeat(root, 2), slices.Repeat(root, most/k))
	}
	return cycles
}

// shortCycles are all cycles over two letters of up to 6 letters, and some over more.
func shortCycles() [][]int {
	cycles := slices.Concat(wordsOf(1, 6), wordsOf(2, 4), wordsOf(3, 3), wordsOf(4, 3))
	for n := 3; n <= 6; n++ {
		cycles = append(cycles, wordsOf(n, 2)...)
	}
	return cycles
}

func expectPlaces(t *testing.T, w, window []int, want ...int) {
	t.Helper()
	places, ok := impl.PlacesOf(w, window)
	expectList(t, fmt.Sprint("PlacesOf ", w, window), places, ok, want)
}

func expectWindow(t *testing.T, w []int, n, place int, want []int) {
	t.Helper()
	window, ok := impl.WindowAt(w, n, place)
	expectList(t, fmt.Sprint("WindowAt ", w, n, place), window, ok, want)
}

func TestIsCycle(t *testing.T) {
	for length := range 5 {
		forChoices([]int{-1, 0, 1, 2, 5, 6}, length, nil, func(w []int) {
			for k := -1; k <= 8; k++ {
				want := length > 0 && k >= 1 && k <= 6 && slices.Min(w) >= 0 && slices.Max(w) < k
				if impl.IsCycle(w, k) != want {
					t.Errorf("IsCycle %v %d is not %v", w, k, want)
				}
			}
		})
	}
	for _, w := range noCycles {
		for k := -1; k <= 8; k++ {
			if impl.IsCycle(w, k) {
				t.Errorf("IsCycle %v %d", w, k)
			}
		}
	}
	for _, k := range []int{math.MinInt, -1, 0, 7, 1025, math.MaxInt} {
		if impl.IsCycle([]int{0}, k) {
			t.Errorf("IsCycle 0 over %d letters", k)
		}
	}
}

func TestIsLongCycle(t *testing.T) {
	for k := 1; k <= 6; k++ {
		for _, length := range []int{1, 2, 63, 64, 65, 1023, 1024, 1025} {
			want := length <= 1024
			if impl.IsCycle(repeated(k-1, length), k) != want {
				t.Errorf("IsCycle of %d letters over %d is not %v", length, k, want)
			}
			if impl.IsCycle(append(repeated(0, length-1), k), k) || impl.IsCycle(append(repeated(0, length-1), -1), k) {
				t.Errorf("IsCycle of %d letters with one that is not over %d", length, k)
			}
		}
	}
}

func TestWindows(t *testing.T) {
	for _, w := range append(shortCycles(), randomCycles(1024)...) {
		for _, n := range []int{1, 2, 3, 7, len(w), len(w) + 1, 1023, 1024} {
			if n > 1024 {
				continue
			}
			for _, place := range []int{0, 1, 2, len(w) / 2, len(w) - 2, len(w) - 1} {
				if place >= 0 && place < len(w) {
					expectWindow(t, w, n, place, plainWindow(w, n, place))
				}
			}
		}
	}
}

func TestNamedWindows(t *testing.T) {
	w := []int{0, 0, 1, 2}
	for place, letter := range w {
		expectWindow(t, w, 1, place, []int{letter})
	}
	expectWindow(t, w, 3, 0, []int{0, 0, 1})
	expectWindow(t, w, 3, 3, []int{2, 0, 0})
	expectWindow(t, w, 4, 2, []int{1, 2, 0, 0})
	expectWindow(t, w, 10, 3, []int{2, 0, 0, 1, 2, 0, 0, 1, 2, 0})
	expectWindow(t, []int{5}, 1, 0, []int{5})
	expectWindow(t, []int{5}, 1024, 0, repeated(5, 1024))
	expectWindow(t, append(repeated(0, 1023), 1), 1024, 1023, append([]int{1}, repeated(0, 1023)...))
}

func TestInvalidWindows(t *testing.T) {
	fails := func(w []int, n, place int) {
		t.Helper()
		window, ok := impl.WindowAt(w, n, place)
		expectNoList(t, fmt.Sprint("WindowAt ", w, n, place), window, ok)
	}
	for _, w := range noCycles {
		fails(w, 1, 0)
		fails(w, 2, 1)
	}
	for _, w := range [][]int{{0}, {0, 1}, {0, 0, 1, 1}, repeated(5, 1024)} {
		for _, n := range []int{math.MinInt, -1, 0, 1025, 1026, math.MaxInt} {
			fails(w, n, 0)
			fails(w, n, len(w)-1)
		}
		for _, place := range []int{math.MinInt, -len(w), -1, len(w), len(w) + 1, 1025, math.MaxInt} {
			fails(w, 1, place)
			fails(w, 1024, place)
		}
	}
}

func TestPlaces(t *testing.T) {
	windows := slices.Concat(wordsOf(1, 3), wordsOf(2, 3), wordsOf(3, 2), wordsOf(5, 2), wordsOf(7, 2), [][]int{repeated(0, 20), slices.Repeat([]int{0, 1}, 20)})
	for _, w := range append(shortCycles(), randomCycles(40)...) {
		for _, window := range windows {
			expectPlaces(t, w, window, plainPlaces(w, window)...)
		}
		for _, n := range []int{1, 2, len(w), 2*len(w) + 1} {
			window := plainWindow(w, n, len(w)/2)
			expectPlaces(t, w, window, plainPlaces(w, window)...)
		}
	}
}

func TestPlacesInLongCycles(t *testing.T) {
	for i, w := range randomCycles(1024) {
		n := []int{1, 4, 1024}[i%3]
		window := plainWindow(w, n, len(w)-1)
		expectPlaces(t, w, window, plainPlaces(w, window)...)
	}
	expectPlaces(t, repeated(5, 1024), repeated(5, 1024), upTo(1024)...)
	expectPlaces(t, append(repeated(0, 1023), 1), append([]int{1}, repeated(0, 1023)...), 1023)
	expectPlaces(t, repeated(0, 1024), append(repeated(0, 1023), 1))
}

func TestNamedPlaces(t *testing.T) {
	w := []int{0, 0, 1, 1}
	expectPlaces(t, w, []int{1, 0}, 3)
	expectPlaces(t, w, []int{0, 0}, 0)
	expectPlaces(t, w, []int{0}, 0, 1)
	expectPlaces(t, w, []int{1}, 2, 3)
	expectPlaces(t, w, []int{2})
	expectPlaces(t, w, []int{5, 5})
	expectPlaces(t, w, []int{1, 1, 1})
	expectPlaces(t, w, []int{1, 0, 0, 1, 1, 0}, 3)
	expectPlaces(t, w, []int{1, 0, 0, 1, 1, 1})
	expectPlaces(t, []int{0, 1, 0, 1}, []int{1, 0, 1, 0, 1}, 1, 3)
	expectPlaces(t, []int{4}, []int{4}, 0)
	expectPlaces(t, []int{4}, repeated(4, 1024), 0)
	expectPlaces(t, []int{4}, append(repeated(4, 1023), 3))
	expectPlaces(t, []int{4}, []int{3})
}

func TestInvalidPlaces(t *testing.T) {
	for _, bad := range noCycles {
		for _, w := range [][]int{{0}, {0, 1}, repeated(5, 1024)} {
			places, ok := impl.PlacesOf(w, bad)
			expectNoList(t, fmt.Sprint("PlacesOf ", w, bad), places, ok)
			places, ok = impl.PlacesOf(bad, w)
			expectNoList(t, fmt.Sprint("PlacesOf ", bad, w), places, ok)
		}
		places, ok := impl.PlacesOf(bad, bad)
		expectNoList(t, fmt.Sprint("PlacesOf ", bad, bad), places, ok)
	}
}
