package tests

import (
	"fmt"
	"math"
	"slices"
	"testing"

	"loop.example/g01104/impl"
)

// wordCalls are the functions of chapter 7 but for ParseWord; ok stands last in each result.
var wordCalls = []call{
	{"IsWord", 0, 1, func(_ []int, l [][]int) []any { return []any{impl.IsWord(l[0])} }},
	{"RotateWord", 1, 1, func(n []int, l [][]int) []any { x, ok := impl.RotateWord(l[0], n[0]); return []any{x, ok} }},
	{"LeastRotation", 0, 1, func(_ []int, l [][]int) []any { by, x, ok := impl.LeastRotation(l[0]); return []any{by, x, ok} }},
	{"RootLength", 0, 1, func(_ []int, l [][]int) []any { x, ok := impl.RootLength(l[0]); return []any{x, ok} }},
	{"IsNecklace", 0, 1, func(_ []int, l [][]int) []any { x, ok := impl.IsNecklace(l[0]); return []any{x, ok} }},
	{"IsLyndon", 0, 1, func(_ []int, l [][]int) []any { x, ok := impl.IsLyndon(l[0]); return []any{x, ok} }},
	{"IsBracelet", 0, 1, func(_ []int, l [][]int) []any { x, ok := impl.IsBracelet(l[0]); return []any{x, ok} }},
	{"LyndonFactors", 0, 1, func(_ []int, l [][]int) []any { x, ok := impl.LyndonFactors(l[0]); return []any{x, ok} }},
	{"StandardFactors", 0, 1, func(_ []int, l [][]int) []any { x, y, ok := impl.StandardFactors(l[0]); return []any{x, y, ok} }},
	{"BracketText", 0, 1, func(_ []int, l [][]int) []any { x, ok := impl.BracketText(l[0]); return []any{x, ok} }},
	{"NextLyndon", 2, 1, func(n []int, l [][]int) []any { x, ok := impl.NextLyndon(l[0], n[0], n[1]); return []any{x, ok} }},
	{"LyndonUpTo", 2, 0, func(n []int, _ [][]int) []any { x, ok := impl.LyndonUpTo(n[0], n[1]); return []any{x, ok} }},
	{"NecklacesOf", 2, 0, func(n []int, _ [][]int) []any { x, ok := impl.NecklacesOf(n[0], n[1]); return []any{x, ok} }},
	{"CountLyndon", 2, 0, func(n []int, _ [][]int) []any { x, ok := impl.CountLyndon(n[0], n[1]); return []any{x, ok} }},
	{"CountNecklaces", 2, 0, func(n []int, _ [][]int) []any { x, ok := impl.CountNecklaces(n[0], n[1]); return []any{x, ok} }},
	{"CountBracelets", 2, 0, func(n []int, _ [][]int) []any { x, ok := impl.CountBracelets(n[0], n[1]); return []any{x, ok} }},
	{"WordText", 0, 1, func(_ []int, l [][]int) []any { x, ok := impl.WordText(l[0]); return []any{x, ok} }},
}

func parseCall(text string) call {
	return call{fmt.Sprintf("ParseWord %q", text), 0, 0, func(_ []int, _ [][]int) []any { x, ok := impl.ParseWord(text); return []any{x, ok} }}
}

// argumentWords are some words, some that are none, and all Lyndon words of few letters.
func argumentWords() [][]int {
	words := slices.Concat(noWords, wordsOf(1, 6), wordsOf(2, 3), wordsOf(3, 3), wordsOf(4, 2), sortedLyndon(6, 2), [][]int{append(repeated(0, 23), 1), append(repeated(0, 11), 1), append(repeated(0, 12), 1)})
	for i, w := range longWords() {
		if i%20 == 0 {
			words = append(words, w)
		}
	}
	return words
}

// wordNumbers are lengths, numbers of letters and rotations, and some that are none.
var wordNumbers = []int{math.MinInt, -1001, -1000, -7, -1, 0, 1, 2, 3, 4, 6, 7, 12, 13, 24, 1000, 1001, math.MaxInt}

func TestWordArguments(t *testing.T) {
	words := argumentWords()
	for _, c := range wordCalls {
		t.Run(c.name, func(t *testing.T) {
			checkArguments(t, c)
			forChoices(wordNumbers, c.numbers, nil, func(numbers []int) {
				forChoices(words, c.lists, nil, func(lists [][]int) { checkCall(t, c, numbers, lists) })
			})
		})
	}
	t.Run("ParseWord", func(t *testing.T) {
		for _, text := range append(badTexts, "0", "5", "001", "543210543210543210543210") {
			checkCall(t, parseCall(text), nil, nil)
		}
	})
}

func TestWordResultsEnd(t *testing.T) {
	checkResultsEnd(t, wordCalls, wordNumbers, argumentWords())
	parsing := []call{parseCall("0"), parseCall("001"), parseCall("543210543210543210543210"), parseCall("0é")}
	checkResultsEnd(t, parsing, nil, nil)
}
