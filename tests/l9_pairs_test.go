package tests

import (
	"fmt"
	"math"
	"math/rand/v2"
	"slices"
	"testing"

	"loop.example/g01104/impl"
)

// noSuperWords are too long, or have numbers that no word may have.
var noSuperWords = [][]int{
	{-1}, {12}, {math.MinInt}, {math.MaxInt}, {0, 12}, {12, 0}, {0, -1}, {-1, 0}, {0, 1, 12}, {-1, 1, 0}, {0, 1, math.MaxInt}, {math.MinInt, 1, 2}, {0, 1, 2, 0, 3, 1, 4, 2, 3, 12}, upTo(13),
	repeated(0, 201), repeated(11, 201), slices.Repeat(upTo(3), 67), append(repeated(0, 199), 12), append(repeated(0, 199), -1), append([]int{12}, repeated(0, 199)...), repeated(1, 5000),
}

// noPairSizes are numbers n for which there is nothing to ask.
var noPairSizes = []int{math.MinInt, -11, -3, -1, 0, 1, 12, 13, 15, 21, 64, math.MaxInt}

func plainSuperWord(word []int) bool {
	return len(word) <= 200 && !slices.ContainsFunc(word, func(x int) bool { return x < 0 || x > 11 })
}

func sortedPair(a, b int) [2]int { return [2]int{min(a, b), max(a, b)} }

// plainNeighbours are those of a round word, in order.
func plainNeighbours(word []int) [][2]int {
	var neighbours [][2]int
	for i, x := range word {
		if i == len(word)-1 {
			neighbours = append(neighbours, sortedPair(x, word[0]))
		} else {
			neighbours = append(neighbours, sortedPair(x, word[i+1]))
		}
	}
	return neighbours
}

// plainPairCycle counts how often each two numbers stand side by side.
func plainPairCycle(n int, word []int) bool {
	counts := map[[2]int]int{}
	for _, pair := range plainNeighbours(word) {
		counts[pair]++
	}
	for b := range n {
		for a := range b {
			if counts[[2]int{a, b}] != 1 {
				return false
			}
		}
	}
	return len(counts) == n*(n-1)/2
}

// pairCyclesFrom goes on by each two numbers that have not stood side by side.
func pairCyclesFrom(n int, word []int) [][]int {
	if len(word) == n*(n-1)/2 {
		if plainPairCycle(n, word) {
			return [][]int{word}
		}
		return nil
	}
	last := len(word) - 1
	met := plainNeighbours(word)[:last]
	var found [][]int
	for x := range n {
		if x != word[last] && !slices.Contains(met, sortedPair(x, word[last])) {
			found = append(found, pairCyclesFrom(n, append(slices.Clone(word), x))...)
		}
	}
	return found
}

func allPairs(n int) map[[2]int]bool {
	pairs := map[[2]int]bool{}
	for b := range n {
		for a := range b {
			pairs[[2]int{a, b}] = true
		}
	}
	return pairs
}

// randomPairCycle walks on by random pairs until none is left, and puts in, where it can, what the walk has left out.
func randomPairCycle(random *rand.Rand, n int) []int {
	left := allPairs(n)
	var word []int
	var goOn func(int)
	goOn = func(a int) {
		for _, b := range random.Perm(n) {
			if pair := sortedPair(a, b); left[pair] {
				delete(left, pair)
				goOn(b)
			}
		}
		word = append(word, a)
	}
	goOn(random.IntN(n))
	return word[1:]
}

// hangTogether reports whether all pairs can be reached from a number.
func hangTogether(pairs map[[2]int]bool, from int) bool {
	reached := map[int]bool{from: true}
	for range len(pairs) {
		for pair := range pairs {
			if reached[pair[0]] || reached[pair[1]] {
				reached[pair[0]], reached[pair[1]] = true, true
			}
		}
	}
	for pair := range pairs {
		if !reached[pair[0]] {
			return false
		}
	}
	return true
}

// plainLeastPairs goes on with the least number that leaves pairs which all can be walked through from there.
func plainLeastPairs(n int) []int {
	left := allPairs(n)
	word := []int{0}
	for len(word) < n*(n-1)/2 {
		last := word[len(word)-1]
		for x := range n {
			pair := sortedPair(x, last)
			if !left[pair] {
				continue
			}
			delete(left, pair)
			if hangTogether(left, x) {
				word = append(word, x)
				break
			}
			left[pair] = true
		}
	}
	return word
}

func expectPairs(t *testing.T, n int, word []int) {
	t.Helper()
	name := fmt.Sprint("IsPairCycle ", n, word)
	got, ok := impl.IsPairCycle(n, word)
	if n < 2 || n > 11 || !plainSuperWord(word) {
		expectNoFact(t, name, got, ok)
	} else {
		expectFact(t, name, got, ok, plainPairCycle(n, word))
	}
}

// expectPairPlaces tries all neighbours, and some that are none.
func expectPairPlaces(t *testing.T, n int, word []int) {
	t.Helper()
	isCycle := plainSuperWord(word) && n >= 2 && n <= 11 && plainPairCycle(n, word)
	numbers := append(upTo(n+1), -1, 12, math.MinInt, math.MaxInt)
	forChoices(numbers, 2, nil, func(pair []int) {
		name := fmt.Sprint("PairPlace ", n, word, pair)
		got, ok := impl.PairPlace(n, word, pair[0], pair[1])
		want := slices.Index(plainNeighbours(word), sortedPair(pair[0], pair[1]))
		if isCycle && want >= 0 {
			expectNumber(t, name, got, ok, want)
		} else {
			expectNoNumber(t, name, got, ok)
		}
	})
}

func TestShortPairCycles(t *testing.T) {
	for n := 2; n <= 4; n++ {
		for length := range 7 {
			for _, word := range wordsOf(length, min(n+1, 4)) {
				expectPairs(t, n, word)
			}
		}
	}
	for length := range 4 {
		forChoices([]int{-1, 0, 1, 2, 3, 11, 12}, length, nil, func(word []int) {
			for n := 1; n <= 12; n++ {
				expectPairs(t, n, word)
			}
		})
	}
}

// TestAllPairCycles also knows how many there are: 2 and 264, of which each can be turned to as many words as it has numbers.
func TestAllPairCycles(t *testing.T) {
	for n, want := range map[int]int{2: 0, 3: 2 * 3, 4: 0, 5: 264 * 10} {
		var all [][]int
		for x := range n {
			all = append(all, pairCyclesFrom(n, []int{x})...)
		}
		if len(all) != want {
			t.Errorf("%d pair cycles of %d instead of %d", len(all), n, want)
		}
		for i, word := range all {
			got, ok := impl.IsPairCycle(n, word)
			expectFact(t, fmt.Sprint("IsPairCycle ", n, word), got, ok, true)
			if i%7 == 0 {
				expectPairPlaces(t, n, word)
			}
		}
	}
}

func TestPairCyclesWithMistakes(t *testing.T) {
	random := rand.New(rand.NewPCG(9, 1))
	for n := 3; n <= 11; n += 2 {
		for range 20 {
			word := randomPairCycle(random, n)
			if !plainPairCycle(n, word) {
				t.Fatalf("the test makes %v for %d", word, n)
			}
			expectPairs(t, n, word)
			expectPairs(t, n, plainWindow(word, len(word), random.IntN(len(word))))
			for other := range 13 {
				expectPairs(t, other, word)
			}
			for _, changed := range variationsOf(word) {
				expectPairs(t, n, changed)
			}
			i, j := random.IntN(len(word)), random.IntN(len(word))
			exchanged := slices.Clone(word)
			exchanged[i], exchanged[j] = word[j], word[i]
			expectPairs(t, n, exchanged)
			expectPairs(t, n, append(slices.Clone(word), word[0]))
			expectPairs(t, n, slices.Repeat(word, 2))
		}
	}
}

func TestPairCycle(t *testing.T) {
	for n := 3; n <= 11; n += 2 {
		word, ok := impl.PairCycle(n)
		expectList(t, fmt.Sprint("PairCycle ", n), word, ok, plainLeastPairs(n))
		expectPairs(t, n, word)
		if !plainPairCycle(n, word) {
			t.Errorf("PairCycle %d is the word %v", n, word)
		}
		expectPairPlaces(t, n, word)
	}
	for _, n := range []int{3, 5} {
		word, ok := impl.PairCycle(n)
		expectList(t, fmt.Sprint("PairCycle ", n), word, ok, pairCyclesFrom(n, []int{0})[0])
	}
	word, ok := impl.PairCycle(3)
	expectList(t, "PairCycle 3", word, ok, []int{0, 1, 2})
	word, ok = impl.PairCycle(5)
	expectList(t, "PairCycle 5", word, ok, []int{0, 1, 2, 0, 3, 1, 4, 2, 3, 4})
	word, ok = impl.PairCycle(11)
	expectNumber(t, "numbers of PairCycle 11", len(word), ok, 55)
}

func TestNoPairCycle(t *testing.T) {
	for _, n := range append([]int{2, 4, 6, 8, 10}, noPairSizes...) {
		word, ok := impl.PairCycle(n)
		expectNoList(t, fmt.Sprint("PairCycle ", n), word, ok)
	}
	// In these each pair stands side by side, but some do more than once.
	for _, word := range [][]int{{0}, {0, 1}, {1, 0}, {0, 0}, {0, 1, 0}} {
		expectPairs(t, 2, word)
		expectPairPlaces(t, 2, word)
	}
	for _, word := range [][]int{{0, 1, 2, 3, 0, 2, 1, 3}, {0, 1, 2, 3, 1, 3, 0, 2}, {0, 1, 2, 3, 0, 2}} {
		expectPairs(t, 4, word)
		expectPairPlaces(t, 4, word)
	}
}

func TestNamedPairs(t *testing.T) {
	word := []int{0, 1, 2, 0, 3, 1, 4, 2, 3, 4}
	place := func(a, b, want int) {
		t.Helper()
		got, ok := impl.PairPlace(5, word, a, b)
		expectNumber(t, fmt.Sprint("PairPlace ", a, b), got, ok, want)
	}
	place(0, 1, 0)
	place(1, 0, 0)
	place(2, 0, 2)
	place(0, 2, 2)
	place(3, 4, 8)
	place(4, 3, 8)
	// The last number stands beside the first one.
	place(4, 0, 9)
	place(0, 4, 9)
	for x := -1; x <= 12; x++ {
		got, ok := impl.PairPlace(5, word, x, x)
		expectNoNumber(t, fmt.Sprint("PairPlace of a number beside itself ", x), got, ok)
	}
	for _, pair := range [][2]int{{0, 5}, {5, 0}, {4, 5}, {5, 6}, {-1, 0}, {0, -1}, {11, 0}, {0, 12}, {math.MinInt, 0}, {0, math.MaxInt}, {math.MinInt, math.MaxInt}} {
		got, ok := impl.PairPlace(5, word, pair[0], pair[1])
		expectNoNumber(t, fmt.Sprint("PairPlace ", pair), got, ok)
	}
	for _, other := range [][]int{nil, {}, {0}, {0, 1, 2}, word[1:], append(slices.Clone(word), 0), {0, 1, 2, 0, 3, 1, 4, 2, 4, 3}, {5, 1, 2, 5, 3, 1, 4, 2, 3, 4}} {
		expectPairs(t, 5, other)
		expectPairPlaces(t, 5, other)
	}
}

func TestInvalidPairs(t *testing.T) {
	fails := func(n int, word []int) {
		t.Helper()
		got, ok := impl.IsPairCycle(n, word)
		expectNoFact(t, fmt.Sprint("IsPairCycle ", n, word), got, ok)
		place, ok := impl.PairPlace(n, word, 0, 1)
		expectNoNumber(t, fmt.Sprint("PairPlace ", n, word), place, ok)
	}
	for _, n := range noPairSizes {
		for _, word := range [][]int{nil, {}, {0}, {0, 1}, {0, 1, 2}, upTo(11), upTo(12), repeated(0, 200)} {
			fails(n, word)
		}
	}
	for _, word := range noSuperWords {
		for n := -1; n <= 13; n++ {
			fails(n, word)
		}
	}
	for n := 2; n <= 11; n++ {
		for _, word := range [][]int{nil, {}, {11}, upTo(12), repeated(0, 200), repeated(11, 200)} {
			got, ok := impl.IsPairCycle(n, word)
			expectFact(t, fmt.Sprint("IsPairCycle ", n, word), got, ok, false)
		}
	}
}
