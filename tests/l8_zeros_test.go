package tests

import (
	"fmt"
	"slices"
	"testing"

	"loop.example/g01104/impl"
)

func takenOut(w []int, place int) []int { return slices.Delete(slices.Clone(w), place, place+1) }

// plainWithZero looks for the place as the document tells it. It requires a cycle that may have one more zero.
func plainWithZero(w []int, n int) []int {
	if n == 1 {
		return append([]int{0}, w...)
	}
	for place := range w {
		before := w[(place+len(w)-1)%len(w)]
		if before != 0 && slices.Equal(plainWindow(w, n-1, place), repeated(0, n-1)) {
			return slices.Insert(slices.Clone(w), place, 0)
		}
	}
	return nil
}

// lacksZero reports whether just the window of zeros is missing.
func lacksZero(w []int, n, k int) bool {
	return len(w) == plainPower(k, n)-1 && windowsDiffer(w, n) && len(plainPlaces(w, repeated(0, n))) == 0
}

func expectWithoutZero(t *testing.T, w []int, n, k int) {
	t.Helper()
	name := fmt.Sprint("WithoutZero ", w, n, k)
	shorter, ok := impl.WithoutZero(w, n, k)
	if plainBruijn(w, n, k) {
		expectList(t, name, shorter, ok, takenOut(w, plainPlaces(w, repeated(0, n))[0]))
	} else {
		expectNoList(t, name, shorter, ok)
	}
}

func expectWithZero(t *testing.T, w []int, n, k int) {
	t.Helper()
	name := fmt.Sprint("WithZero ", w, n, k)
	longer, ok := impl.WithZero(w, n, k)
	if !lacksZero(w, n, k) {
		expectNoList(t, name, longer, ok)
		return
	}
	expectList(t, name, longer, ok, plainWithZero(w, n))
	if !plainBruijn(longer, n, k) {
		t.Errorf("%s: %v is no de Bruijn word", name, longer)
	}
}

// TestAllCyclesForZeros tries all cycles over k letters of about k^n letters.
func TestAllCyclesForZeros(t *testing.T) {
	for _, sizes := range [][2]int{{1, 2}, {2, 2}, {3, 2}, {1, 3}, {2, 3}, {1, 4}, {1, 5}, {1, 6}} {
		n, k := sizes[0], sizes[1]
		for length := max(plainPower(k, n)-2, 1); length <= plainPower(k, n)+1 && plainPower(k, length) < 50000; length++ {
			for _, w := range wordsOf(length, k) {
				expectWithoutZero(t, w, n, k)
				expectWithZero(t, w, n, k)
			}
		}
	}
}

// TestZerosOfAllBruijn rotates de Bruijn words, so that the zeros stand anywhere, and takes one away and puts it back.
func TestZerosOfAllBruijn(t *testing.T) {
	for _, sizes := range listedSizes {
		n, k := sizes[0], sizes[1]
		for _, w := range sortedBruijn(n, k) {
			for _, rotation := range plainRotations(w) {
				expectWithoutZero(t, rotation, n, k)
				shorter, _ := impl.WithoutZero(rotation, n, k)
				expectWithZero(t, shorter, n, k)
			}
		}
	}
}

func TestZerosOfLongBruijn(t *testing.T) {
	for _, maker := range bruijnMakers {
		forBruijnSizes(func(n, k int) {
			w, _ := maker.make(n, k)
			for _, by := range []int{0, 1, n - 1, n, len(w) / 2, len(w) - n, len(w) - 1} {
				rotation := plainWindow(w, len(w), by%len(w))
				expectWithoutZero(t, rotation, n, k)
				shorter, _ := impl.WithoutZero(rotation, n, k)
				expectWithZero(t, shorter, n, k)
				expectWithZero(t, rotation, n, k)
				expectWithoutZero(t, shorter, n, k)
			}
		})
	}
}

func TestNamedZeros(t *testing.T) {
	without := func(n, k int, w []int, want ...int) {
		t.Helper()
		shorter, ok := impl.WithoutZero(w, n, k)
		expectList(t, fmt.Sprint("WithoutZero ", w, n, k), shorter, ok, want)
	}
	with := func(n, k int, w []int, want ...int) {
		t.Helper()
		longer, ok := impl.WithZero(w, n, k)
		expectList(t, fmt.Sprint("WithZero ", w, n, k), longer, ok, want)
	}
	without(2, 2, []int{0, 0, 1, 1}, 0, 1, 1)
	without(2, 2, []int{0, 1, 1, 0}, 0, 1, 1)
	without(1, 2, []int{0, 1}, 1)
	without(1, 2, []int{1, 0}, 1)
	without(1, 4, []int{3, 1, 0, 2}, 3, 1, 2)
	with(1, 2, []int{1}, 0, 1)
	with(1, 4, []int{3, 1, 2}, 0, 3, 1, 2)
	with(2, 2, []int{0, 1, 1}, 0, 0, 1, 1)
	with(2, 2, []int{1, 1, 0}, 1, 1, 0, 0)
	with(2, 2, []int{1, 0, 1}, 1, 0, 0, 1)
	with(3, 2, []int{0, 1, 1, 1, 0, 1, 0}, 0, 1, 1, 1, 0, 1, 0, 0)
	// Of the places at which a zero stands, the least one gets the other one, which may have stood at another place.
	without(2, 3, []int{1, 0, 2, 1, 1, 2, 2, 0, 0}, 1, 0, 2, 1, 1, 2, 2, 0)
	with(2, 3, []int{1, 0, 2, 1, 1, 2, 2, 0}, 1, 0, 0, 2, 1, 1, 2, 2, 0)
}

func TestNoZeros(t *testing.T) {
	// Zeros only, too many of them, equal windows, and no zeros at all.
	for _, w := range [][]int{{0}, {0, 0, 1}, {0, 0, 0}, {1, 1, 1}, {0, 1, 0, 1, 0, 1, 1}, {0, 0, 0, 1, 0, 1, 1}, repeated(1, 7), repeated(1, 1023), repeated(0, 1023), repeated(0, 1024), repeated(1, 1024)} {
		forBruijnSizes(func(n, k int) {
			expectWithZero(t, w, n, k)
			expectWithoutZero(t, w, n, k)
		})
	}
}

func TestInvalidZeros(t *testing.T) {
	fails := func(w []int, n, k int) {
		t.Helper()
		longer, ok := impl.WithZero(w, n, k)
		expectNoList(t, fmt.Sprint("WithZero ", w, n, k), longer, ok)
		shorter, ok := impl.WithoutZero(w, n, k)
		expectNoList(t, fmt.Sprint("WithoutZero ", w, n, k), shorter, ok)
	}
	for _, sizes := range noBruijnSizes {
		for _, w := range [][]int{nil, {0}, {1}, {0, 1}, {0, 1, 1}, {0, 0, 1, 1}, {1, 2, 3, 4, 5}, upTo(6), repeated(0, 1024)} {
			fails(w, sizes[0], sizes[1])
		}
	}
	for _, w := range noCycles {
		forBruijnSizes(func(n, k int) { fails(w, n, k) })
	}
	for k := 2; k <= 5; k++ {
		fails(upTo(k + 1)[1:], 1, k)
		fails(append(upTo(k-1), k), 1, k)
		fails(append(upTo(k - 1)[1:], k), 1, k)
	}
}
