package tests

import (
	"fmt"
	"slices"
	"testing"

	"loop.example/g01104/impl"
)

// plainStandardPlace tries the endings of a Lyndon word, the longest one first.
func plainStandardPlace(w []int) int {
	return 1 + slices.IndexFunc(upTo(len(w))[1:], func(place int) bool { return plainLyndon(w[place:]) })
}

func plainBrackets(w []int) string {
	if len(w) == 1 {
		return fmt.Sprint(w[0])
	}
	place := plainStandardPlace(w)
	return fmt.Sprintf("[%s,%s]", plainBrackets(w[:place]), plainBrackets(w[place:]))
}

func expectFactors(t *testing.T, w []int, want ...[]int) {
	t.Helper()
	factors, ok := impl.LyndonFactors(w)
	expectLists(t, fmt.Sprint("LyndonFactors ", w), factors, ok, want)
}

func expectStandard(t *testing.T, w, first, second []int) {
	t.Helper()
	gotFirst, gotSecond, ok := impl.StandardFactors(w)
	expectLists(t, fmt.Sprint("StandardFactors ", w), [][]int{gotFirst, gotSecond}, ok, [][]int{first, second})
}

func expectNoStandard(t *testing.T, w []int) {
	t.Helper()
	first, second, ok := impl.StandardFactors(w)
	expectNoList(t, fmt.Sprint("first one of StandardFactors ", w), first, ok)
	expectNoList(t, fmt.Sprint("second one of StandardFactors ", w), second, ok)
}

func expectText(t *testing.T, what string, got string, ok bool, want string) {
	t.Helper()
	if !ok || got != want {
		t.Errorf("%s: %q, %v instead of %q, true", what, got, ok, want)
	}
}

func expectNoText(t *testing.T, what string, got string, ok bool) {
	t.Helper()
	if ok || got != "" {
		t.Errorf("%s: %q, %v instead of no text, false", what, got, ok)
	}
}

func expectBrackets(t *testing.T, w []int, want string) {
	t.Helper()
	text, ok := impl.BracketText(w)
	expectText(t, fmt.Sprint("BracketText ", w), text, ok, want)
}

func expectNoBrackets(t *testing.T, w []int) {
	t.Helper()
	text, ok := impl.BracketText(w)
	expectNoText(t, fmt.Sprint("BracketText ", w), text, ok)
}

// TestFactors checks what factors are: there is just one list of such words.
func TestFactors(t *testing.T) {
	for _, w := range someWords() {
		factors, ok := impl.LyndonFactors(w)
		if !ok || !slices.Equal(slices.Concat(factors...), w) {
			t.Errorf("LyndonFactors %v: %v, %v", w, factors, ok)
		}
		for i, factor := range factors {
			if len(factor) == 0 || !plainLyndon(factor) {
				t.Errorf("LyndonFactors %v: %v is no Lyndon word", w, factor)
			}
			if i > 0 && slices.Compare(factors[i-1], factor) < 0 {
				t.Errorf("LyndonFactors %v: %v is less than %v behind it", w, factors[i-1], factor)
			}
		}
	}
}

func TestNamedFactors(t *testing.T) {
	expectFactors(t, []int{1, 0, 1, 0, 0}, []int{1}, []int{0, 1}, []int{0}, []int{0})
	expectFactors(t, []int{5}, []int{5})
	expectFactors(t, []int{0, 0, 1, 0, 1}, []int{0, 0, 1, 0, 1})
	expectFactors(t, []int{0, 1, 0, 1, 0, 1}, []int{0, 1}, []int{0, 1}, []int{0, 1})
	expectFactors(t, []int{0, 1, 2, 0, 1, 1}, []int{0, 1, 2}, []int{0, 1, 1})
	expectFactors(t, append(repeated(0, 23), 5), append(repeated(0, 23), 5))
	expectFactors(t, repeated(3, 24), slices.Repeat([][]int{{3}}, 24)...)
	for _, w := range noWords {
		factors, ok := impl.LyndonFactors(w)
		expectNoLists(t, fmt.Sprint("LyndonFactors ", w), factors, ok)
	}
}

func TestStandardFactors(t *testing.T) {
	for _, w := range someWords() {
		if len(w) == 1 || !plainLyndon(w) {
			expectNoStandard(t, w)
			continue
		}
		place := plainStandardPlace(w)
		expectStandard(t, w, w[:place], w[place:])
		if !plainLyndon(w[:place]) {
			t.Errorf("the first one of the standard factors of %v is no Lyndon word", w)
		}
	}
}

func TestNamedStandardFactors(t *testing.T) {
	expectStandard(t, []int{0, 1}, []int{0}, []int{1})
	expectStandard(t, []int{4, 5}, []int{4}, []int{5})
	expectStandard(t, []int{0, 0, 1}, []int{0}, []int{0, 1})
	expectStandard(t, []int{0, 1, 1}, []int{0, 1}, []int{1})
	expectStandard(t, []int{0, 0, 1, 0, 1}, []int{0, 0, 1}, []int{0, 1})
	expectStandard(t, []int{0, 1, 0, 2}, []int{0, 1}, []int{0, 2})
	expectStandard(t, append(repeated(0, 23), 1), []int{0}, append(repeated(0, 22), 1))
	expectStandard(t, append([]int{0}, repeated(1, 23)...), append([]int{0}, repeated(1, 22)...), []int{1})
	for _, w := range [][]int{{0}, {5}, {0, 0}, {1, 0}, {0, 1, 0}, {0, 1, 0, 1}, append(repeated(0, 23), 0), append(repeated(1, 23), 0)} {
		expectNoStandard(t, w)
	}
	for _, w := range noWords {
		expectNoStandard(t, w)
	}
}

func TestBrackets(t *testing.T) {
	for _, w := range someWords() {
		if plainLyndon(w) {
			expectBrackets(t, w, plainBrackets(w))
		} else {
			expectNoBrackets(t, w)
		}
	}
}

func TestNamedBrackets(t *testing.T) {
	for letter, text := range []string{"0", "1", "2", "3", "4", "5"} {
		expectBrackets(t, []int{letter}, text)
	}
	expectBrackets(t, []int{0, 1}, "[0,1]")
	expectBrackets(t, []int{0, 0, 1}, "[0,[0,1]]")
	expectBrackets(t, []int{0, 1, 1}, "[[0,1],1]")
	expectBrackets(t, []int{0, 0, 1, 0, 1}, "[[0,[0,1]],[0,1]]")
	expectBrackets(t, []int{0, 1, 2, 3, 4, 5}, "[0,[1,[2,[3,[4,5]]]]]")
	expectBrackets(t, []int{0, 5, 4, 3, 2, 1}, "[[[[[0,5],4],3],2],1]")
	for _, w := range [][]int{{0, 0}, {1, 0}, {0, 1, 0}, {0, 1, 0, 1}, repeated(0, 24)} {
		expectNoBrackets(t, w)
	}
	for _, w := range noWords {
		expectNoBrackets(t, w)
	}
}
