package tests

import (
	"fmt"
	"math"
	"math/rand/v2"
	"slices"
	"strconv"
	"strings"
	"testing"

	"loop.example/g01104/impl"
)

// noSuperSizes are numbers n for which there is nothing to ask.
var noSuperSizes = []int{math.MinInt, -5, -1, 0, 6, 7, 12, 13, 21, 64, math.MaxInt}

// digitsOf has one number for each character.
func digitsOf(text string) []int {
	var word []int
	for _, character := range text {
		word = append(word, int(character-'0'))
	}
	return word
}

// plainRanks also tells at how many indices, from n - 1 on, no permutation ends that comes for the first time.
func plainRanks(n int, word []int) (ranks []int, wasted int) {
	orders := sortedOrders(n)
	for start := 0; start+n <= len(word); start++ {
		rank := slices.IndexFunc(orders, func(order []int) bool { return slices.Equal(order, word[start:start+n]) })
		if rank < 0 || slices.Contains(ranks, rank) {
			wasted++
		} else {
			ranks = append(ranks, rank)
		}
	}
	return ranks, wasted
}

// plainSuper looks for each permutation.
func plainSuper(n int, word []int) bool {
	for _, order := range sortedOrders(n) {
		found := false
		for start := 0; start+n <= len(word); start++ {
			found = found || slices.Equal(order, word[start:start+n])
		}
		if !found {
			return false
		}
	}
	return true
}

// plainSuperText makes the blocks as texts, and asks of each how much of it is there already.
func plainSuperText(n int) string {
	if n == 1 {
		return "0"
	}
	shorter, text := plainSuperText(n-1), ""
	met := map[string]bool{}
	for start := 0; start+n-1 <= len(shorter); start++ {
		order := shorter[start : start+n-1]
		isOrder := true
		for x := range n - 1 {
			isOrder = isOrder && strings.Contains(order, strconv.Itoa(x))
		}
		if !isOrder || met[order] {
			continue
		}
		met[order] = true
		block := order + strconv.Itoa(n-1) + order
		common := len(block)
		for !strings.HasSuffix(text, block[:common]) {
			common--
		}
		text += block[common:]
	}
	return text
}

func expectSuper(t *testing.T, n int, word []int) {
	t.Helper()
	name := fmt.Sprint(n, word)
	is, isOk := impl.IsSuper(n, word)
	ranks, ranksOk := impl.RanksIn(n, word)
	wasted, wastedOk := impl.WastedIn(n, word)
	if n < 1 || n > 5 || !plainSuperWord(word) {
		expectNoFact(t, "IsSuper "+name, is, isOk)
		expectNoList(t, "RanksIn "+name, ranks, ranksOk)
		expectNoNumber(t, "WastedIn "+name, wasted, wastedOk)
		return
	}
	wantRanks, wantWasted := plainRanks(n, word)
	expectFact(t, "IsSuper "+name, is, isOk, plainSuper(n, word))
	expectList(t, "RanksIn "+name, ranks, ranksOk, wantRanks)
	expectNumber(t, "WastedIn "+name, wasted, wastedOk, wantWasted)
}

func TestShortSuperWords(t *testing.T) {
	for length := range 6 {
		for _, word := range wordsOf(length, 4) {
			for n := range 7 {
				expectSuper(t, n, word)
			}
		}
	}
	for length := range 4 {
		forChoices([]int{-1, 0, 1, 11, 12}, length, nil, func(word []int) {
			for n := range 4 {
				expectSuper(t, n, word)
			}
		})
	}
	for _, word := range wordsOf(9, 3) {
		expectSuper(t, 3, word)
	}
}

func TestLongSuperWords(t *testing.T) {
	random := rand.New(rand.NewPCG(9, 4))
	for n := 1; n <= 5; n++ {
		whole := digitsOf(plainSuperText(n))
		for length := range len(whole) + 1 {
			expectSuper(t, n, whole[:length])
			expectSuper(t, n, whole[length:])
		}
		for size := range 7 {
			expectSuper(t, size, whole)
			expectSuper(t, size, slices.Repeat(whole, 200/len(whole)))
			expectSuper(t, size, slices.Repeat(whole, 200/len(whole)+1))
		}
		for range 30 {
			// Other numbers among those of a superpermutation, and the permutations in another order, with some of them missing.
			changed := slices.Clone(whole)
			changed[random.IntN(len(changed))] = random.IntN(12)
			expectSuper(t, n, changed)
			expectSuper(t, n, replaced(whole, random.Perm(n)))
			expectSuper(t, n, randomLetters(random, random.IntN(201), min(n+1, 12)))
			expectSuper(t, n, randomLetters(random, 200, n))
			expectSuper(t, n, randomLetters(random, 201, n))
		}
	}
}

func TestSuperOf(t *testing.T) {
	for n, want := range map[int]string{1: "0", 2: "010", 3: "012010210", 4: "012301203120132010231021302103210"} {
		word, ok := impl.SuperOf(n)
		expectList(t, fmt.Sprint("SuperOf ", n), word, ok, digitsOf(want))
	}
	for n, want := range []int{1: 1, 2: 3, 3: 9, 4: 33, 5: 153} {
		if n == 0 {
			continue
		}
		word, ok := impl.SuperOf(n)
		expectList(t, fmt.Sprint("SuperOf ", n), word, ok, digitsOf(plainSuperText(n)))
		expectNumber(t, fmt.Sprint("numbers of SuperOf ", n), len(word), ok, want)
		length, ok := impl.SuperLength(n)
		expectNumber(t, fmt.Sprint("SuperLength ", n), length, ok, want)
		ranks, ok := impl.RanksIn(n, word)
		expectList(t, fmt.Sprint("sorted RanksIn SuperOf ", n), sortedOf(ranks), ok, upTo(len(sortedOrders(n))))
		wasted, ok := impl.WastedIn(n, word)
		expectNumber(t, fmt.Sprint("WastedIn SuperOf ", n), wasted, ok, want-n+1-len(ranks))
		is, ok := impl.IsSuper(n, word)
		expectFact(t, fmt.Sprint("IsSuper SuperOf ", n), is, ok, true)
		// The permutations at both ends are nowhere else.
		is, ok = impl.IsSuper(n, word[1:])
		expectFact(t, fmt.Sprint("IsSuper SuperOf without its first number ", n), is, ok, false)
		is, ok = impl.IsSuper(n, word[:len(word)-1])
		expectFact(t, fmt.Sprint("IsSuper SuperOf without its last number ", n), is, ok, false)
	}
}

func TestSuperBound(t *testing.T) {
	for n, want := range map[int]int{1: 1, 2: 3, 3: 9, 4: 33, 5: 152} {
		bound, ok := impl.SuperBound(n)
		expectNumber(t, fmt.Sprint("SuperBound ", n), bound, ok, want)
	}
}

// TestShortestSuper tries all words, the shortest ones first.
func TestShortestSuper(t *testing.T) {
	for n := 1; n <= 3; n++ {
		var found [][]int
		length := 0
		for len(found) == 0 {
			length++
			found = slices.DeleteFunc(wordsOf(length, n), func(word []int) bool { return !plainSuper(n, word) })
		}
		word, ok := impl.ShortestSuper(n)
		expectList(t, fmt.Sprint("ShortestSuper ", n), word, ok, found[0])
		bound, ok := impl.SuperBound(n)
		if !ok || length < bound {
			t.Errorf("a superpermutation of %d has %d numbers, and SuperBound is %d, %v", n, length, bound, ok)
		}
	}
	word, ok := impl.ShortestSuper(3)
	expectList(t, "ShortestSuper 3", word, ok, []int{0, 1, 2, 0, 1, 0, 2, 1, 0})
}

func TestNamedSuperWords(t *testing.T) {
	ranks := func(n int, word []int, wasted int, want ...int) {
		t.Helper()
		got, ok := impl.RanksIn(n, word)
		expectList(t, fmt.Sprint("RanksIn ", n, word), got, ok, want)
		number, ok := impl.WastedIn(n, word)
		expectNumber(t, fmt.Sprint("WastedIn ", n, word), number, ok, wasted)
	}
	ranks(3, []int{0, 1, 2, 0, 1, 0, 2, 1, 0}, 1, 0, 3, 4, 2, 1, 5)
	for n := 1; n <= 5; n++ {
		ranks(n, nil, 0)
		ranks(n, []int{}, 0)
		ranks(n, upTo(n-1), 0)
		ranks(n, upTo(n), 0, 0)
		// A permutation that begins, but does not end.
		ranks(n, append(upTo(n), repeated(n, 3)...), 3, 0)
		ranks(n, append(repeated(n, 3), upTo(n)...), 3, 0)
		ranks(n, repeated(11, 200), 201-n)
		ranks(n, append(repeated(n, 200-n), upTo(n)...), 200-n, 0)
	}
	ranks(1, []int{0, 0, 0}, 2, 0)
	ranks(1, []int{1}, 1)
	ranks(2, []int{0, 1, 1, 0}, 1, 0, 1)
	ranks(2, []int{0, 1, 0, 1}, 1, 0, 1)
	ranks(2, []int{1, 2}, 1)
	ranks(3, []int{1, 2, 3, 1}, 2)
	ranks(3, []int{2, 1, 0, 2}, 0, 5, 2)
	ranks(4, []int{0, 1, 2, 3, 0, 1}, 0, 0, 9, 16)
	ranks(5, []int{4, 3, 2, 1, 0}, 0, 119)
	ranks(5, []int{4, 3, 2, 1}, 0)
}

func TestSuperLimits(t *testing.T) {
	whole := digitsOf(plainSuperText(5))
	longest := append(slices.Clone(whole), repeated(11, 47)...)
	for _, word := range [][]int{longest, append(repeated(11, 47), whole...), append(longest, 0), append([]int{0}, longest...), append(whole, 12), append(whole, -1)} {
		expectSuper(t, 5, word)
	}
	is, ok := impl.IsSuper(5, longest)
	expectFact(t, "IsSuper of 200 numbers", is, ok, true)
	is, ok = impl.IsSuper(5, append(longest, 0))
	expectNoFact(t, "IsSuper of 201 numbers", is, ok)
	// A superpermutation of more numbers has the permutations of fewer, too.
	for n := 1; n <= 4; n++ {
		is, ok = impl.IsSuper(n, longest)
		expectFact(t, fmt.Sprint("IsSuper of SuperOf 5 for ", n), is, ok, true)
	}
}

func TestInvalidSuperWords(t *testing.T) {
	for _, n := range noSuperSizes {
		for _, word := range [][]int{nil, {}, {0}, {0, 1, 0}, upTo(6), upTo(12), digitsOf(plainSuperText(5)), repeated(0, 200)} {
			expectSuper(t, n, word)
		}
		word, ok := impl.SuperOf(n)
		expectNoList(t, fmt.Sprint("SuperOf ", n), word, ok)
		length, ok := impl.SuperLength(n)
		expectNoNumber(t, fmt.Sprint("SuperLength ", n), length, ok)
		bound, ok := impl.SuperBound(n)
		expectNoNumber(t, fmt.Sprint("SuperBound ", n), bound, ok)
	}
	for _, n := range append([]int{4, 5}, noSuperSizes...) {
		word, ok := impl.ShortestSuper(n)
		expectNoList(t, fmt.Sprint("ShortestSuper ", n), word, ok)
	}
	for _, word := range noSuperWords {
		for n := range 7 {
			expectSuper(t, n, word)
		}
	}
}
