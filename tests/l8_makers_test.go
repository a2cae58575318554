package tests

import (
	"fmt"
	"math"
	"slices"
	"testing"

	"loop.example/g01104/impl"
)

// mostStages are, for each number of letters k, the greatest n for which de Bruijn words may be asked for; 4^5 is exactly 1024, as 2^10 is.
var mostStages = map[int]int{2: 10, 3: 6, 4: 5, 5: 4, 6: 3}

// noBruijnSizes are n and k for which there are none.
var noBruijnSizes = [][2]int{
	{0, 2}, {-1, 2}, {11, 2}, {12, 2}, {64, 2}, {math.MinInt, 2}, {math.MaxInt, 2}, {1, 1}, {2, 1}, {10, 1}, {1, 0}, {3, 0}, {1, -1}, {2, -2}, {1, 7}, {3, 7}, {1, 1024}, {1, math.MinInt}, {1, math.MaxInt},
	{7, 3}, {6, 4}, {5, 5}, {4, 6}, {10, 3}, {10, 6}, {0, 0}, {0, 1}, {0, 7}, {11, 1}, {11, 7}, {-1, -1}, {math.MinInt, math.MinInt}, {math.MaxInt, math.MaxInt},
}

// forBruijnSizes calls do with all n and k for which de Bruijn words may be asked for.
func forBruijnSizes(do func(n, k int)) {
	for k := 2; k <= 6; k++ {
		for n := 1; n <= mostStages[k]; n++ {
			do(n, k)
		}
	}
}

func plainPower(k, n int) int {
	power := 1
	for ; n > 0; n-- {
		power *= k
	}
	return power
}

func windowsDiffer(w []int, n int) bool {
	met := map[string]bool{}
	for place := range w {
		met[fmt.Sprint(plainWindow(w, n, place))] = true
	}
	return len(met) == len(w)
}

func plainBruijn(w []int, n, k int) bool { return len(w) == plainPower(k, n) && windowsDiffer(w, n) }

// plainLeast finds Lyndon words by trying all words.
func plainLeast(n, k int) []int {
	var words [][]int
	for length := 1; length <= n; length++ {
		if n%length == 0 {
			words = append(words, wordsOf(length, k)...)
		}
	}
	words = slices.DeleteFunc(words, func(w []int) bool { return !plainLyndon(w) })
	slices.SortFunc(words, slices.Compare[[]int])
	return slices.Concat(words...)
}

// plainGreedyWord goes on until there is no letter, and cuts the list off then.
func plainGreedyWord(n, k int) []int {
	list := repeated(0, n)
	met := map[string]bool{fmt.Sprint(list): true}
	for letter := k - 1; letter >= 0; letter-- {
		window := append(slices.Clone(list[len(list)-n+1:]), letter)
		if !met[fmt.Sprint(window)] {
			met[fmt.Sprint(window)] = true
			list = append(list, letter)
			letter = k
		}
	}
	return list[:plainPower(k, n)]
}

// plainEuler keeps all letters of the walk, behind those of the start, so that going back takes one away.
func plainEuler(n, k int) []int {
	walked := repeated(0, n-1)
	left := map[string]int{}
	var word []int
	for {
		node := fmt.Sprint(walked[len(walked)-n+1:])
		last := len(walked) - 1
		switch {
		case left[node] < k:
			walked = append(walked, left[node])
			left[node]++
		case last < n-1:
			return word
		default:
			word = slices.Insert(word, 0, walked[last])
			walked = walked[:last]
		}
	}
}

// bruijnMaker is one of the ways to make a de Bruijn word.
type bruijnMaker struct {
	name  string
	make  func(n, k int) ([]int, bool)
	plain func(n, k int) []int
}

var bruijnMakers = []bruijnMaker{
	{"LeastBruijn", impl.LeastBruijn, plainLeast}, {"GreedyBruijn", impl.GreedyBruijn, plainGreedyWord}, {"EulerBruijn", impl.EulerBruijn, plainEuler},
}

func expectBruijn(t *testing.T, w []int, n, k int, want bool) {
	t.Helper()
	got, ok := impl.IsBruijn(w, n, k)
	expectFact(t, fmt.Sprint("IsBruijn ", w, n, k), got, ok, want)
}

func TestEachWayMakesABruijnWord(t *testing.T) {
	for _, maker := range bruijnMakers {
		forBruijnSizes(func(n, k int) {
			name := fmt.Sprint(maker.name, " ", n, k)
			w, ok := maker.make(n, k)
			expectList(t, name, w, ok, maker.plain(n, k))
			if !plainBruijn(w, n, k) {
				t.Errorf("%s: %v is no de Bruijn word", name, w)
			}
			expectBruijn(t, w, n, k, true)
		})
	}
}

func TestWaysWithoutSizes(t *testing.T) {
	for _, maker := range bruijnMakers {
		for _, sizes := range noBruijnSizes {
			w, ok := maker.make(sizes[0], sizes[1])
			expectNoList(t, fmt.Sprint(maker.name, " ", sizes), w, ok)
		}
	}
}

func TestNamedBruijnWords(t *testing.T) {
	expect := func(maker bruijnMaker, n, k int, want ...int) {
		t.Helper()
		w, ok := maker.make(n, k)
		expectList(t, fmt.Sprint(maker.name, " ", n, k), w, ok, want)
	}
	least, greedy, euler := bruijnMakers[0], bruijnMakers[1], bruijnMakers[2]
	for k := 2; k <= 6; k++ {
		expect(least, 1, k, upTo(k)...)
		expect(greedy, 1, k, append([]int{0}, downFrom(k)[:k-1]...)...)
		expect(euler, 1, k, upTo(k)...)
	}
	expect(least, 2, 2, 0, 0, 1, 1)
	expect(least, 3, 2, 0, 0, 0, 1, 0, 1, 1, 1)
	expect(least, 4, 2, 0, 0, 0, 0, 1, 0, 0, 1, 1, 0, 1, 0, 1, 1, 1, 1)
	expect(least, 2, 3, 0, 0, 1, 0, 2, 1, 1, 2, 2)
	expect(greedy, 2, 2, 0, 0, 1, 1)
	expect(greedy, 3, 2, 0, 0, 0, 1, 1, 1, 0, 1)
	expect(greedy, 2, 3, 0, 0, 2, 2, 1, 2, 0, 1, 1)
	expect(euler, 2, 2, 0, 1, 1, 0)
	expect(euler, 3, 2, 0, 1, 0, 1, 1, 1, 0, 0)
}

// TestLeastIsLeast holds the least word against all de Bruijn words of the same kind where all of them can be tried, and against its own rotations elsewhere.
func TestLeastIsLeast(t *testing.T) {
	forBruijnSizes(func(n, k int) {
		w, _ := impl.LeastBruijn(n, k)
		for by := range w {
			if slices.Compare(append(slices.Clone(w[by:]), w[:by]...), w) < 0 {
				t.Errorf("LeastBruijn %d %d: the rotation by %d is less", n, k, by)
			}
		}
	})
	for _, sizes := range listedSizes {
		w, ok := impl.LeastBruijn(sizes[0], sizes[1])
		expectList(t, fmt.Sprint("LeastBruijn ", sizes), w, ok, sortedBruijn(sizes[0], sizes[1])[0])
	}
}

// TestAllCyclesForBruijn tries all cycles over k letters of about k^n letters.
func TestAllCyclesForBruijn(t *testing.T) {
	for _, sizes := range [][2]int{{1, 2}, {2, 2}, {3, 2}, {1, 3}, {2, 3}, {1, 4}, {1, 5}} {
		n, k := sizes[0], sizes[1]
		for length := max(plainPower(k, n)-1, 1); length <= plainPower(k, n)+1 && plainPower(k, length) < 50000; length++ {
			for _, w := range wordsOf(length, k) {
				expectBruijn(t, w, n, k, plainBruijn(w, n, k))
			}
		}
	}
}

func TestWordsForOtherSizes(t *testing.T) {
	forBruijnSizes(func(n, k int) {
		w, _ := impl.GreedyBruijn(n, k)
		forBruijnSizes(func(otherN, otherK int) {
			if otherK < k {
				got, ok := impl.IsBruijn(w, otherN, otherK)
				expectNoFact(t, fmt.Sprint("IsBruijn ", w, otherN, otherK), got, ok)
			} else {
				expectBruijn(t, w, otherN, otherK, n == otherN && k == otherK)
			}
		})
	})
	expectBruijn(t, []int{0}, 1, 2, false)
	expectBruijn(t, repeated(5, 1024), 3, 6, false)
	expectBruijn(t, repeated(0, 1024), 10, 2, false)
	expectBruijn(t, repeated(0, 1023), 10, 2, false)
}

// TestNearlyBruijn changes one letter, takes one away or puts one in.
func TestNearlyBruijn(t *testing.T) {
	forBruijnSizes(func(n, k int) {
		w, _ := impl.LeastBruijn(n, k)
		for _, place := range []int{0, 1, len(w) / 2, len(w) - 1} {
			other := slices.Clone(w)
			other[place] = (other[place] + 1) % k
			expectBruijn(t, other, n, k, plainBruijn(other, n, k))
			expectBruijn(t, slices.Delete(slices.Clone(w), place, place+1), n, k, false)
			if len(w) < 1024 {
				expectBruijn(t, slices.Insert(slices.Clone(w), place, 0), n, k, false)
			}
			other[place] = k
			got, ok := impl.IsBruijn(other, n, k)
			expectNoFact(t, fmt.Sprint("IsBruijn ", other, n, k), got, ok)
		}
	})
}

func TestInvalidBruijn(t *testing.T) {
	for _, sizes := range noBruijnSizes {
		for _, w := range [][]int{{0}, {0, 1}, {0, 0, 1, 1}, upTo(6), repeated(0, 1024)} {
			got, ok := impl.IsBruijn(w, sizes[0], sizes[1])
			expectNoFact(t, fmt.Sprint("IsBruijn ", w, sizes), got, ok)
		}
	}
	for _, w := range noCycles {
		forBruijnSizes(func(n, k int) {
			got, ok := impl.IsBruijn(w, n, k)
			expectNoFact(t, fmt.Sprint("IsBruijn ", w, n, k), got, ok)
		})
	}
	got, ok := impl.IsBruijn([]int{0, 2}, 1, 2)
	expectNoFact(t, "IsBruijn with a letter that is not over two", got, ok)
}
