package tests

import (
	"fmt"
	"math"
	"slices"
	"testing"

	"loop.example/g01104/impl"
)

// plainRegister makes more letters than there can be states, and cuts them off where the first state comes again.
func plainRegister(taps []int, n int) []int {
	letters := append(repeated(0, n-1), 1)
	for i := range 1 << n {
		ones := 0
		for _, tap := range taps {
			ones += letters[i+tap]
		}
		letters = append(letters, ones%2)
	}
	length := 1
	for !slices.Equal(letters[length:length+n], letters[:n]) {
		length++
	}
	return letters[:length]
}

// tapsOf returns all taps for n.
func tapsOf(n int) [][]int {
	var all [][]int
	for k := 1; k <= n; k++ {
		all = append(all, sortedSubsets(n, k)...)
	}
	return slices.DeleteFunc(all, func(taps []int) bool { return taps[0] != 0 })
}

func expectRegister(t *testing.T, taps []int, n int, want []int, full bool) {
	t.Helper()
	word, ok := impl.RegisterWord(taps, n)
	expectList(t, fmt.Sprint("RegisterWord ", taps, n), word, ok, want)
	got, ok := impl.IsFullRegister(taps, n)
	expectFact(t, fmt.Sprint("IsFullRegister ", taps, n), got, ok, full)
}

// TestAllRegisters also knows how many taps are full: those of the primitive polynomials over two elements.
func TestAllRegisters(t *testing.T) {
	for n, want := range []int{1: 1, 2: 1, 3: 2, 4: 2, 5: 6, 6: 6, 7: 18, 8: 16, 9: 48, 10: 60} {
		full := 0
		for _, taps := range tapsOf(n) {
			word := plainRegister(taps, n)
			isFull := len(word) == 1<<n-1
			if isFull {
				full++
			}
			expectRegister(t, taps, n, word, isFull)
		}
		if full != want {
			t.Errorf("%d full registers for %d instead of %d", full, n, want)
		}
	}
}

// TestZerosOfRegisters puts a zero into the words of registers, which makes a de Bruijn word just of full ones.
func TestZerosOfRegisters(t *testing.T) {
	for n := 1; n <= 10; n++ {
		for _, taps := range tapsOf(n) {
			word, _ := impl.RegisterWord(taps, n)
			longer, ok := impl.WithZero(word, n, 2)
			if full, _ := impl.IsFullRegister(taps, n); ok != full || full && !plainBruijn(longer, n, 2) {
				t.Errorf("the word of %v for %d with a zero is %v, %v", taps, n, longer, ok)
			}
		}
	}
}

func TestNamedRegisters(t *testing.T) {
	expectRegister(t, []int{0, 1}, 3, []int{0, 0, 1, 0, 1, 1, 1}, true)
	expectRegister(t, []int{0, 2}, 3, []int{0, 0, 1, 1, 1, 0, 1}, true)
	expectRegister(t, []int{0, 1, 2}, 3, []int{0, 0, 1, 1}, false)
	expectRegister(t, []int{0, 1}, 2, []int{0, 1, 1}, true)
	expectRegister(t, []int{0}, 1, []int{1}, true)
	for n := 2; n <= 10; n++ {
		expectRegister(t, []int{0}, n, append(repeated(0, n-1), 1), false)
	}
	word, ok := impl.RegisterWord([]int{0, 3}, 10)
	expectNumber(t, "letters of RegisterWord 0, 3 for 10", len(word), ok, 1023)
}

func TestInvalidRegisters(t *testing.T) {
	fails := func(taps []int, n int) {
		t.Helper()
		word, ok := impl.RegisterWord(taps, n)
		expectNoList(t, fmt.Sprint("RegisterWord ", taps, n), word, ok)
		full, ok := impl.IsFullRegister(taps, n)
		expectNoFact(t, fmt.Sprint("IsFullRegister ", taps, n), full, ok)
	}
	for _, n := range []int{math.MinInt, -64, -1, 0, 11, 12, 13, 64, math.MaxInt} {
		for _, taps := range [][]int{nil, {}, {0}, {0, 1}, upTo(10), upTo(11), upTo(12)} {
			fails(taps, n)
		}
	}
	for n := 1; n <= 10; n++ {
		for _, taps := range [][]int{
			nil, {}, {1}, {0, 0}, {0, 1, 1}, {0, 2, 1}, {1, 0}, {1, 2}, {-1}, {-1, 0}, {0, -1}, {0, n}, {n}, {n - 1, n}, append(upTo(n), n), {0, math.MaxInt}, {0, math.MinInt}, {math.MinInt, 0},
			repeated(0, n+1), repeated(0, 11), upTo(11), upTo(1024),
		} {
			fails(taps, n)
		}
	}
}

// TestTapsForEachLength tries all lists of a few numbers as taps.
func TestTapsForEachLength(t *testing.T) {
	for n := 1; n <= 4; n++ {
		valid := tapsOf(n)
		for length := range 4 {
			forChoices([]int{-1, 0, 1, 2, 3, 4}, length, nil, func(taps []int) {
				isTaps := slices.ContainsFunc(valid, func(other []int) bool { return slices.Equal(other, taps) })
				word, ok := impl.RegisterWord(taps, n)
				_, fullOk := impl.IsFullRegister(taps, n)
				if ok != isTaps || fullOk != isTaps || (len(word) > 0) != isTaps {
					t.Errorf("RegisterWord %v %d: %v, %v, and %v of IsFullRegister", taps, n, word, ok, fullOk)
				}
			})
		}
	}
}
