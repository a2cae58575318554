package tests

import (
	"fmt"
	"math"
	"slices"
	"testing"

	"loop.example/g01104/impl"
)

// badSizes are lengths and numbers of letters that are none, in pairs.
var badSizes = [][2]int{
	{0, 2}, {-1, 2}, {13, 2}, {math.MinInt, 2}, {math.MaxInt, 2}, {3, 0}, {3, -1}, {3, 7}, {3, math.MinInt}, {3, math.MaxInt},
	{13, 1}, {0, 1}, {1, 0}, {1, 7}, {12, 7}, {13, 6}, {0, 0}, {-1, -1}, {13, 7}, {math.MaxInt, math.MaxInt},
}

// sortedLyndon tries all words.
func sortedLyndon(n, k int) [][]int {
	var words [][]int
	for length := 1; length <= n; length++ {
		words = append(words, wordsOf(length, k)...)
	}
	words = slices.DeleteFunc(words, func(w []int) bool { return !plainLyndon(w) })
	slices.SortFunc(words, slices.Compare[[]int])
	return words
}

func expectNext(t *testing.T, w []int, n, k int, want []int) {
	t.Helper()
	next, ok := impl.NextLyndon(w, n, k)
	expectList(t, fmt.Sprint("NextLyndon ", w, n, k), next, ok, want)
}

func expectNoNext(t *testing.T, w []int, n, k int) {
	t.Helper()
	next, ok := impl.NextLyndon(w, n, k)
	expectNoList(t, fmt.Sprint("NextLyndon ", w, n, k), next, ok)
}

// expectListed expects a failure where there is more than may be listed.
func expectListed(t *testing.T, what string, got [][]int, ok bool, want [][]int) {
	t.Helper()
	if len(want) > 1100 {
		expectNoLists(t, what, got, ok)
	} else {
		expectLists(t, what, got, ok, want)
	}
}

func TestListsOfLyndonWords(t *testing.T) {
	for k, most := range []int{1: 12, 2: 12, 3: 8, 4: 7, 5: 6, 6: 5} {
		for n := 1; n <= most; n++ {
			want := sortedLyndon(n, k)
			list, ok := impl.LyndonUpTo(n, k)
			expectListed(t, fmt.Sprint("LyndonUpTo ", n, k), list, ok, want)
			for i, w := range want[1:] {
				expectNext(t, want[i], n, k, w)
			}
			expectNoNext(t, want[len(want)-1], n, k)
		}
	}
}

// TestLongWalks goes through more words than may be listed: as many Lyndon words as there are, each greater than that before it, are all of them in order.
func TestLongWalks(t *testing.T) {
	for k, n := range map[int]int{3: 12, 4: 9, 5: 8, 6: 7} {
		behind := -1
		for length := 1; length <= n; length++ {
			count, _ := impl.CountLyndon(length, k)
			behind += count
		}
		w := []int{0}
		for range behind {
			next, ok := impl.NextLyndon(w, n, k)
			if !ok || len(next) > n || slices.Max(next) >= k || !plainLyndon(next) || slices.Compare(w, next) >= 0 {
				t.Fatalf("NextLyndon %v %d %d: %v, %v", w, n, k, next, ok)
			}
			w = next
		}
		expectNoNext(t, w, n, k)
	}
}

func TestListsOfNecklaces(t *testing.T) {
	for k, most := range []int{1: 12, 2: 12, 3: 9, 4: 7, 5: 6, 6: 5} {
		for n := 1; n <= most; n++ {
			want := slices.DeleteFunc(wordsOf(n, k), func(w []int) bool { return !plainNecklace(w) })
			list, ok := impl.NecklacesOf(n, k)
			expectListed(t, fmt.Sprint("NecklacesOf ", n, k), list, ok, want)
		}
	}
}

// TestTooLongLists also holds the least lists that are too long, and the longest ones that are not.
func TestTooLongLists(t *testing.T) {
	lyndonLengths := []int{1: 12, 2: 12, 3: 7, 4: 6, 5: 5, 6: 4}
	lyndonCounts := []int{1: 1, 2: 747, 3: 508, 4: 964, 5: 829, 6: 406}
	necklaceLengths := []int{1: 12, 2: 12, 3: 8, 4: 6, 5: 5, 6: 4}
	necklaceCounts := []int{1: 1, 2: 352, 3: 834, 4: 700, 5: 629, 6: 336}
	for k := 1; k <= 6; k++ {
		for n := 1; n <= 12; n++ {
			list, ok := impl.LyndonUpTo(n, k)
			if ok != (n <= lyndonLengths[k]) || n == lyndonLengths[k] && len(list) != lyndonCounts[k] || !ok && len(list) > 0 {
				t.Errorf("LyndonUpTo %d %d has %d words, %v", n, k, len(list), ok)
			}
			list, ok = impl.NecklacesOf(n, k)
			if ok != (n <= necklaceLengths[k]) || n == necklaceLengths[k] && len(list) != necklaceCounts[k] || !ok && len(list) > 0 {
				t.Errorf("NecklacesOf %d %d has %d words, %v", n, k, len(list), ok)
			}
		}
	}
}

func TestNamedNextWords(t *testing.T) {
	list, ok := impl.LyndonUpTo(3, 2)
	expectLists(t, "LyndonUpTo 3 2", list, ok, [][]int{{0}, {0, 0, 1}, {0, 1}, {0, 1, 1}, {1}})
	expectNext(t, []int{0}, 12, 6, append(repeated(0, 11), 1))
	expectNext(t, append(repeated(0, 11), 1), 12, 6, append(repeated(0, 11), 2))
	expectNext(t, append(repeated(0, 11), 5), 12, 6, append(repeated(0, 10), 1))
	expectNext(t, append([]int{4}, repeated(5, 11)...), 12, 6, []int{5})
	expectNext(t, []int{0, 1, 5}, 12, 6, []int{0, 1, 5, 0, 1, 5, 0, 1, 5, 0, 2})
	expectNext(t, []int{3}, 1, 6, []int{4})
	expectNext(t, []int{0}, 1, 2, []int{1})
	for k := 1; k <= 6; k++ {
		for n := 1; n <= 12; n++ {
			expectNoNext(t, []int{k - 1}, n, k)
		}
	}
}

func TestInvalidNextWords(t *testing.T) {
	for _, sizes := range badSizes {
		for _, w := range [][]int{{0}, {0, 1}, {1}} {
			expectNoNext(t, w, sizes[0], sizes[1])
		}
	}
	for _, w := range noWords {
		for _, n := range []int{1, 2, 3, 7, 12} {
			expectNoNext(t, w, n, 6)
		}
	}
	for _, w := range [][]int{{0, 0}, {1, 0}, {0, 1, 0}, {0, 1, 0, 1}, repeated(0, 12), append(repeated(1, 11), 0)} {
		expectNoNext(t, w, 12, 3)
	}
	for _, w := range [][]int{{0, 1}, {0, 0, 1}, append(repeated(0, 11), 1), append(repeated(0, 12), 1), append(repeated(0, 23), 1)} {
		expectNoNext(t, w, len(w)-1, 3)
		expectNoNext(t, w, min(len(w), 12), 1)
	}
	for _, w := range [][]int{append(repeated(0, 12), 1), append(repeated(0, 23), 1)} {
		expectNoNext(t, w, len(w), 3)
		expectNoNext(t, w, 12, 3)
	}
	for k := 1; k <= 5; k++ {
		expectNoNext(t, []int{k}, 3, k)
		expectNoNext(t, []int{0, k}, 3, k)
		expectNoNext(t, []int{5}, 3, k)
	}
}

func TestInvalidSizesOfLists(t *testing.T) {
	for _, sizes := range badSizes {
		list, ok := impl.LyndonUpTo(sizes[0], sizes[1])
		expectNoLists(t, fmt.Sprint("LyndonUpTo ", sizes), list, ok)
		list, ok = impl.NecklacesOf(sizes[0], sizes[1])
		expectNoLists(t, fmt.Sprint("NecklacesOf ", sizes), list, ok)
	}
}
