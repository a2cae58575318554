package tests

import (
	"fmt"
	"math"
	"slices"
	"testing"

	"loop.example/g01104/impl"
)

// digitsInOrder lists all digits of bases, the last one changing fastest.
func digitsInOrder(bases []int) [][]int {
	lists := [][]int{{}}
	for _, base := range bases {
		var longer [][]int
		for _, list := range lists {
			for digit := range base {
				longer = append(longer, append(slices.Clone(list), digit))
			}
		}
		lists = longer
	}
	return lists
}

var badBases = [][]int{
	{1}, {0}, {-2}, {13}, {2, 1}, {1, 2}, {2, 13}, {math.MinInt}, {math.MaxInt}, {math.MaxInt, math.MaxInt},
	repeated(2, 13), repeated(12, 12), repeated(10, 7), {10, 10, 10, 10, 10, 11}, repeated(2, 2000),
}

// badDigits are no digits for the bases 2 and 3.
var badDigits = [][]int{nil, {0}, {0, 0, 0}, {2, 0}, {0, 3}, {-1, 0}, {0, -1}, {math.MinInt, 0}, {0, math.MaxInt}, {1, 3}}

func TestDigitsInOrder(t *testing.T) {
	for _, bases := range [][]int{nil, {2}, {12}, {2, 3}, {3, 2}, {5, 2, 12}, {12, 11, 10}, {2, 3, 2, 4, 3}, repeated(2, 12)} {
		want := digitsInOrder(bases)
		for r, digits := range want {
			at, ok := impl.DigitsAt(bases, r)
			expectList(t, fmt.Sprint("DigitsAt ", bases, r), at, ok, digits)
			rank, ok := impl.RankOfDigits(bases, digits)
			expectNumber(t, fmt.Sprint("RankOfDigits ", bases, digits), rank, ok, r)
		}
		for _, r := range []int{len(want), -1, math.MinInt, math.MaxInt} {
			at, ok := impl.DigitsAt(bases, r)
			expectNoList(t, fmt.Sprint("DigitsAt ", bases, r), at, ok)
		}
	}
}

func TestLargestProductOfBases(t *testing.T) {
	for _, bases := range [][]int{repeated(10, 6), {4, 5, 5, 10, 10, 10, 10}} {
		last := make([]int, len(bases))
		for i, base := range bases {
			last[i] = base - 1
		}
		at, ok := impl.DigitsAt(bases, 999999)
		expectList(t, fmt.Sprint("DigitsAt ", bases), at, ok, last)
		rank, ok := impl.RankOfDigits(bases, last)
		expectNumber(t, fmt.Sprint("RankOfDigits ", bases), rank, ok, 999999)
		at, ok = impl.DigitsAt(bases, 1000000)
		expectNoList(t, fmt.Sprint("DigitsAt ", bases, " behind the last"), at, ok)
	}
	at, ok := impl.DigitsAt([]int{11, 7, 11, 9, 11, 12}, 0)
	expectNoList(t, "DigitsAt of a product of 1006236", at, ok)
}

func TestInvalidBases(t *testing.T) {
	for _, bases := range badBases {
		at, ok := impl.DigitsAt(bases, 0)
		expectNoList(t, fmt.Sprint("DigitsAt ", bases), at, ok)
		rank, ok := impl.RankOfDigits(bases, make([]int, len(bases)))
		expectNoNumber(t, fmt.Sprint("RankOfDigits ", bases), rank, ok)
	}
}

func TestInvalidDigits(t *testing.T) {
	bases := []int{2, 3}
	for _, digits := range badDigits {
		rank, ok := impl.RankOfDigits(bases, digits)
		expectNoNumber(t, fmt.Sprint("RankOfDigits ", bases, digits), rank, ok)
	}
	rank, ok := impl.RankOfDigits(nil, []int{0})
	expectNoNumber(t, "RankOfDigits of a digit without a base", rank, ok)
}
