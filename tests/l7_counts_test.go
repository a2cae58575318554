package tests

import (
	"fmt"
	"testing"

	"loop.example/g01104/impl"
)

// knownCounts are, for some numbers of letters, how many words of 1, 2, .. letters there are.
type knownCounts map[int][]int

var lyndonCounts = knownCounts{
	2: {2, 1, 2, 3, 6, 9, 18, 30, 56, 99, 186, 335},
	3: {3, 3, 8, 18, 48, 116, 312, 810, 2184, 5880, 16104, 44220},
	6: {6, 15, 70, 315, 1554, 7735, 39990},
}

var necklaceCounts = knownCounts{
	1: {1, 1, 1, 1, 1, 1, 1, 1, 1, 1, 1, 1},
	2: {2, 3, 4, 6, 8, 14, 20, 36, 60, 108, 188, 352},
	3: {3, 6, 11, 24, 51, 130, 315, 834, 2195, 5934, 16107, 44368},
}

var braceletCounts = knownCounts{
	1: {1, 1, 1, 1, 1, 1, 1, 1, 1, 1, 1, 1},
	2: {2, 3, 4, 6, 8, 13, 18, 30, 46, 78, 126, 224},
	3: {3, 6, 10, 21, 39, 92, 198, 498, 1219, 3210, 8418, 22913},
}

// countKind counts the words of one kind over k letters of n letters by trying all of them.
func countKind(n, k int, kind func([]int) bool) int {
	count := 0
	forChoices(upTo(k), n, nil, func(w []int) {
		if kind(w) {
			count++
		}
	})
	return count
}

func expectCounts(t *testing.T, n, k, lyndon, necklaces, bracelets int) {
	t.Helper()
	count, ok := impl.CountLyndon(n, k)
	expectNumber(t, fmt.Sprint("CountLyndon ", n, k), count, ok, lyndon)
	count, ok = impl.CountNecklaces(n, k)
	expectNumber(t, fmt.Sprint("CountNecklaces ", n, k), count, ok, necklaces)
	count, ok = impl.CountBracelets(n, k)
	expectNumber(t, fmt.Sprint("CountBracelets ", n, k), count, ok, bracelets)
}

func TestCountsOfAllWords(t *testing.T) {
	for k, most := range []int{1: 12, 2: 12, 3: 8, 4: 6, 5: 5, 6: 5} {
		for n := 1; n <= most; n++ {
			expectCounts(t, n, k, countKind(n, k, plainLyndon), countKind(n, k, plainNecklace), countKind(n, k, plainBracelet))
		}
	}
}

func expectKnown(t *testing.T, what string, known knownCounts, count func(int, int) (int, bool)) {
	t.Helper()
	for k, counts := range known {
		for i, want := range counts {
			got, ok := count(i+1, k)
			expectNumber(t, fmt.Sprint(what, " ", i+1, k), got, ok, want)
		}
	}
}

func TestKnownCounts(t *testing.T) {
	expectKnown(t, "CountLyndon", lyndonCounts, impl.CountLyndon)
	expectKnown(t, "CountNecklaces", necklaceCounts, impl.CountNecklaces)
	expectKnown(t, "CountBracelets", braceletCounts, impl.CountBracelets)
	for n := 2; n <= 12; n++ {
		expectCounts(t, n, 1, 0, 1, 1)
	}
	for k := 1; k <= 6; k++ {
		expectCounts(t, 1, k, k, k, k)
	}
}

// unchangedWords returns how many words over k letters stay as they are if each letter goes to the place that to tells: equal letters stand in each round.
func unchangedWords(n, k int, to func(int) int) int {
	var met [12]bool
	count := 1
	for place := range n {
		if !met[place] {
			count *= k
		}
		for ; !met[place]; place = to(place) {
			met[place] = true
		}
	}
	return count
}

// TestCountsByUnchangedWords counts as Burnside does: there are as many classes as words stay as they are on average.
func TestCountsByUnchangedWords(t *testing.T) {
	for k := 1; k <= 6; k++ {
		for n := 1; n <= 12; n++ {
			turned, mirrored := 0, 0
			for by := range n {
				turned += unchangedWords(n, k, func(place int) int { return (place + by) % n })
				mirrored += unchangedWords(n, k, func(place int) int { return (n + by - place) % n })
			}
			necklaces, ok := impl.CountNecklaces(n, k)
			expectNumber(t, fmt.Sprint("CountNecklaces ", n, k), necklaces, ok, turned/n)
			bracelets, ok := impl.CountBracelets(n, k)
			expectNumber(t, fmt.Sprint("CountBracelets ", n, k), bracelets, ok, (turned+mirrored)/(2*n))
		}
	}
}

// TestLyndonWordsMakeAllWords adds up the rotations of the powers of all Lyndon words.
func TestLyndonWordsMakeAllWords(t *testing.T) {
	for k := 1; k <= 6; k++ {
		words := 1
		for n := 1; n <= 12; n++ {
			words *= k
			sum := 0
			for d := 1; d <= n; d++ {
				count, ok := impl.CountLyndon(d, k)
				if !ok {
					t.Errorf("CountLyndon %d %d fails", d, k)
				}
				if n%d == 0 {
					sum += d * count
				}
			}
			if sum != words {
				t.Errorf("of %d words of %d letters over %d, %d come from Lyndon words", words, n, k, sum)
			}
		}
	}
}

func TestInvalidCounts(t *testing.T) {
	for _, sizes := range badSizes {
		count, ok := impl.CountLyndon(sizes[0], sizes[1])
		expectNoNumber(t, fmt.Sprint("CountLyndon ", sizes), count, ok)
		count, ok = impl.CountNecklaces(sizes[0], sizes[1])
		expectNoNumber(t, fmt.Sprint("CountNecklaces ", sizes), count, ok)
		count, ok = impl.CountBracelets(sizes[0], sizes[1])
		expectNoNumber(t, fmt.Sprint("CountBracelets ", sizes), count, ok)
	}
}
