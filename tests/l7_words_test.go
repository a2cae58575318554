package tests

import (
	"fmt"
	"math"
	"math/rand/v2"
	"slices"
	"testing"

	"loop.example/g01104/impl"
)

var noWords = [][]int{
	nil, {}, {-1}, {6}, {math.MinInt}, {math.MaxInt}, {0, 6}, {6, 0}, {0, -1}, {-1, 0}, {0, 1, 2, 3, 4, 5, 6}, {0, 0, math.MaxInt}, {-1, 0, 1},
	repeated(0, 25), repeated(5, 25), repeated(1, 5000), append(repeated(0, 23), 6), append(repeated(0, 23), -1), append([]int{6}, repeated(0, 23)...), append(repeated(0, 24), 1),
}

// longWords are words of up to 24 letters, some of them powers, and rotations and reverses of these; they are the same in each run.
func longWords() [][]int {
	random := rand.New(rand.NewPCG(7, 11))
	var words [][]int
	for length := 1; length <= 24; length++ {
		for k := 1; k <= 6; k++ {
			w := make([]int, length)
			for i := range w {
				w[i] = random.IntN(k)
			}
			for times := 1; times*length <= 24; times++ {
				power := slices.Repeat(w, times)
				words = append(words, power, plainRotations(power)[random.IntN(len(power))], slices.MinFunc(plainRotations(power), slices.Compare[[]int]))
			}
		}
	}
	return words
}

// wordsOf returns all words over k letters of n letters, in increasing order.
func wordsOf(n, k int) [][]int {
	var words [][]int
	forChoices(upTo(k), n, nil, func(w []int) { words = append(words, w) })
	return words
}

// someWords are all short words over some numbers of letters, and longWords.
func someWords() [][]int {
	words := longWords()
	for k, most := range map[int]int{1: 24, 2: 10, 3: 6, 4: 5, 6: 4} {
		for n := 1; n <= most; n++ {
			words = append(words, wordsOf(n, k)...)
		}
	}
	return words
}

// plainRotations makes the rotations by 0..n - 1, each by putting the first letter of the one before it behind its others.
func plainRotations(w []int) [][]int {
	rotations := [][]int{slices.Clone(w)}
	for len(rotations) < len(w) {
		last := rotations[len(rotations)-1]
		rotations = append(rotations, append(slices.Clone(last[1:]), last[0]))
	}
	return rotations
}

func plainNecklace(w []int) bool {
	return !slices.ContainsFunc(plainRotations(w), func(other []int) bool { return slices.Compare(other, w) < 0 })
}

func plainLyndon(w []int) bool {
	return !slices.ContainsFunc(plainRotations(w)[1:], func(other []int) bool { return slices.Compare(other, w) <= 0 })
}

func plainBracelet(w []int) bool {
	reverse := slices.Clone(w)
	slices.Reverse(reverse)
	return plainNecklace(w) && !slices.ContainsFunc(plainRotations(reverse), func(other []int) bool { return slices.Compare(other, w) < 0 })
}

// plainRoot tries all divisors: a word of which each letter is the one p places further on is the rotation by p.
func plainRoot(w []int) int {
	for p := 1; ; p++ {
		if len(w)%p == 0 && slices.Equal(slices.Repeat(w[:p], len(w)/p), w) {
			return p
		}
	}
}

func expectLeastRotation(t *testing.T, w []int, by int, first []int) {
	t.Helper()
	gotBy, got, ok := impl.LeastRotation(w)
	expectNumber(t, fmt.Sprint("number of LeastRotation ", w), gotBy, ok, by)
	expectList(t, fmt.Sprint("LeastRotation ", w), got, ok, first)
}

func expectKinds(t *testing.T, w []int, necklace, lyndon, bracelet bool) {
	t.Helper()
	got, ok := impl.IsNecklace(w)
	expectFact(t, fmt.Sprint("IsNecklace ", w), got, ok, necklace)
	got, ok = impl.IsLyndon(w)
	expectFact(t, fmt.Sprint("IsLyndon ", w), got, ok, lyndon)
	got, ok = impl.IsBracelet(w)
	expectFact(t, fmt.Sprint("IsBracelet ", w), got, ok, bracelet)
}

func expectRoot(t *testing.T, w []int, want int) {
	t.Helper()
	root, ok := impl.RootLength(w)
	expectNumber(t, fmt.Sprint("RootLength ", w), root, ok, want)
}

func expectRotation(t *testing.T, w []int, by int, want []int) {
	t.Helper()
	rotation, ok := impl.RotateWord(w, by)
	expectList(t, fmt.Sprint("RotateWord ", w, by), rotation, ok, want)
}

func TestIsWord(t *testing.T) {
	for length := range 5 {
		forChoices([]int{-1, 0, 1, 5, 6}, length, nil, func(w []int) {
			want := length > 0 && !slices.Contains(w, -1) && !slices.Contains(w, 6)
			if impl.IsWord(w) != want {
				t.Errorf("IsWord %v is not %v", w, want)
			}
		})
	}
	for _, w := range noWords {
		if impl.IsWord(w) {
			t.Errorf("IsWord %v", w)
		}
	}
	for _, w := range someWords() {
		if !impl.IsWord(w) {
			t.Errorf("not IsWord %v", w)
		}
	}
}

func TestKindsOfWords(t *testing.T) {
	for _, w := range someWords() {
		rotations := plainRotations(w)
		first := slices.MinFunc(rotations, slices.Compare[[]int])
		by := slices.IndexFunc(rotations, func(other []int) bool { return slices.Equal(other, first) })
		expectLeastRotation(t, w, by, first)
		expectRoot(t, w, plainRoot(w))
		expectKinds(t, w, plainNecklace(w), plainLyndon(w), plainBracelet(w))
	}
}

func TestKindsOfNamedWords(t *testing.T) {
	for letter := range 6 {
		expectLeastRotation(t, []int{letter}, 0, []int{letter})
		expectRoot(t, []int{letter}, 1)
		expectKinds(t, []int{letter}, true, true, true)
		for n := 2; n <= 24; n++ {
			w := repeated(letter, n)
			expectLeastRotation(t, w, 0, w)
			expectRoot(t, w, 1)
			expectKinds(t, w, true, false, true)
		}
	}
	expectLeastRotation(t, []int{1, 0, 0}, 1, []int{0, 0, 1})
	// Of equal rotations, the first one counts.
	expectLeastRotation(t, []int{1, 0, 1, 0, 1, 0}, 1, []int{0, 1, 0, 1, 0, 1})
	expectRoot(t, []int{0, 1, 0, 1, 0, 1}, 2)
	expectRoot(t, []int{0, 1, 0, 1, 0}, 5)
	expectRoot(t, slices.Repeat(append(upTo(6), 0, 0, 0, 0, 0, 0), 2), 12)
	expectKinds(t, []int{0, 1, 0, 1, 0, 1}, true, false, true)
	expectKinds(t, []int{0, 0, 1, 0, 1, 1}, true, true, true)
	expectKinds(t, []int{0, 0, 1, 1, 0, 1}, true, true, false)
	expectKinds(t, []int{0, 0, 1, 1, 0, 1, 0, 0, 1, 1, 0, 1}, true, false, false)
	expectKinds(t, []int{0, 1, 2}, true, true, true)
	expectKinds(t, []int{0, 2, 1}, true, true, false)
	expectKinds(t, []int{1, 0}, false, false, false)
	longest := append(repeated(0, 23), 1)
	expectKinds(t, longest, true, true, true)
	expectLeastRotation(t, append(repeated(1, 1), repeated(0, 23)...), 1, longest)
	expectLeastRotation(t, append(repeated(5, 23), 4), 23, append([]int{4}, repeated(5, 23)...))
	expectRoot(t, longest, 24)
}

func TestRotations(t *testing.T) {
	for _, w := range append(longWords(), slices.Concat(wordsOf(1, 6), wordsOf(2, 6), wordsOf(3, 3), wordsOf(5, 2))...) {
		forth := slices.Clone(w)
		back := slices.Clone(w)
		for by := range 1001 {
			if by < 60 || by > 970 {
				expectRotation(t, w, by, forth)
				expectRotation(t, w, -by, back)
			}
			forth = append(forth[1:], forth[0])
			back = slices.Insert(back[:len(back)-1], 0, back[len(back)-1])
		}
	}
}

func TestNamedRotations(t *testing.T) {
	expectRotation(t, []int{0, 1, 2}, 0, []int{0, 1, 2})
	expectRotation(t, []int{0, 1, 2}, 1, []int{1, 2, 0})
	expectRotation(t, []int{0, 1, 2}, -1, []int{2, 0, 1})
	expectRotation(t, []int{0, 1, 2}, 3, []int{0, 1, 2})
	expectRotation(t, []int{0, 1, 2}, 1000, []int{1, 2, 0})
	expectRotation(t, []int{0, 1, 2}, -1000, []int{2, 0, 1})
	expectRotation(t, []int{4}, -1000, []int{4})
	for _, by := range []int{math.MinInt, math.MinInt + 1, -2400, -1008, -1001, 1001, 1008, 2400, math.MaxInt - 1, math.MaxInt} {
		for _, w := range [][]int{{0}, {0, 1, 2}, repeated(0, 24)} {
			rotation, ok := impl.RotateWord(w, by)
			expectNoList(t, fmt.Sprint("RotateWord ", w, by), rotation, ok)
		}
	}
}

func TestNoWords(t *testing.T) {
	for _, w := range noWords {
		for _, by := range []int{-1000, -1, 0, 1, 1000} {
			rotation, ok := impl.RotateWord(w, by)
			expectNoList(t, fmt.Sprint("RotateWord ", w, by), rotation, ok)
		}
		by, first, ok := impl.LeastRotation(w)
		expectNoNumber(t, fmt.Sprint("number of LeastRotation ", w), by, ok)
		expectNoList(t, fmt.Sprint("LeastRotation ", w), first, ok)
		root, ok := impl.RootLength(w)
		expectNoNumber(t, fmt.Sprint("RootLength ", w), root, ok)
		got, ok := impl.IsNecklace(w)
		expectNoFact(t, fmt.Sprint("IsNecklace ", w), got, ok)
		got, ok = impl.IsLyndon(w)
		expectNoFact(t, fmt.Sprint("IsLyndon ", w), got, ok)
		got, ok = impl.IsBracelet(w)
		expectNoFact(t, fmt.Sprint("IsBracelet ", w), got, ok)
	}
}
