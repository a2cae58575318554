package tests

import (
	"fmt"
	"math"
	"testing"

	"loop.example/g01104/impl"
)

func TestBlocks(t *testing.T) {
	for n := 1; n <= 8; n++ {
		for _, blocks := range plainPartitions(n) {
			numbers := numbersOfBlocks(n, blocks)
			got, ok := impl.BlocksOf(numbers)
			expectLists(t, fmt.Sprint("BlocksOf ", numbers), got, ok, blocks)
			a, ok := impl.GrowthOf(blocks)
			expectList(t, fmt.Sprint("GrowthOf ", blocks), a, ok, numbers)
		}
	}
}

func TestBlocksOfMostElements(t *testing.T) {
	alone := make([][]int, 12)
	for x := range alone {
		alone[x] = []int{x}
	}
	for _, c := range []struct {
		a      []int
		blocks [][]int
	}{
		{repeated(0, 12), [][]int{upTo(12)}},
		{upTo(12), alone},
		{[]int{0, 1, 0, 1, 0, 1, 0, 1, 0, 1, 0, 1}, [][]int{{0, 2, 4, 6, 8, 10}, {1, 3, 5, 7, 9, 11}}},
		{[]int{0, 1, 2, 3, 4, 5, 5, 4, 3, 2, 1, 0}, [][]int{{0, 11}, {1, 10}, {2, 9}, {3, 8}, {4, 7}, {5, 6}}},
	} {
		blocks, ok := impl.BlocksOf(c.a)
		expectLists(t, fmt.Sprint("BlocksOf ", c.a), blocks, ok, c.blocks)
		a, ok := impl.GrowthOf(c.blocks)
		expectList(t, fmt.Sprint("GrowthOf ", c.blocks), a, ok, c.a)
	}
}

// TestAnyFewBlocks puts all lists of few small numbers side by side; just those of plainPartitions are told as blocks are.
func TestAnyFewBlocks(t *testing.T) {
	growths := map[string][]int{}
	for n := 1; n <= 6; n++ {
		for _, blocks := range plainPartitions(n) {
			growths[fmt.Sprint(blocks)] = numbersOfBlocks(n, blocks)
		}
	}
	var lists [][]int
	for length := range 4 {
		forChoices([]int{-1, 0, 1, 2}, length, nil, func(list []int) { lists = append(lists, list) })
	}
	found := 0
	expect := func(blocks [][]int) {
		a, ok := impl.GrowthOf(blocks)
		if want := growths[fmt.Sprint(blocks)]; want != nil {
			found++
			expectList(t, fmt.Sprint("GrowthOf ", blocks), a, ok, want)
		} else {
			expectNoList(t, fmt.Sprint("GrowthOf ", blocks), a, ok)
		}
	}
	for count := range 3 {
		forChoices(lists, count, nil, expect)
	}
	forChoices(lists[:21], 3, nil, expect)
	expectNumber(t, "blocks of at most three elements", found, true, 1+2+5)
}

func TestBlocksToldOtherwise(t *testing.T) {
	for _, blocks := range [][][]int{
		nil, {}, {nil}, {{}}, {{0}, {}}, {{}, {0}}, {{0}, nil, {1}}, {{1}}, {{1}, {0}}, {{1, 0}}, {{0, 0}}, {{0}, {0}}, {{0, 1}, {1}}, {{0, 2}}, {{0, 2}, {3}, {1}},
		{{0, 2}, {1, 3}, {1}}, {{0}, {2}, {1}}, {{0, 3, 2}, {1}}, {{0, -1}}, {{-1}, {0}}, {{0}, {1}, {3}}, {{math.MaxInt}}, {{math.MinInt}}, {{0}, {math.MaxInt}},
		{upTo(13)}, {upTo(12), {12}}, {upTo(12), nil}, {upTo(12), {0}}, {downFrom(12)}, {repeated(0, 12)}, {repeated(0, 5000)}, make([][]int, 5000), append(make([][]int, 5000), []int{0}),
	} {
		a, ok := impl.GrowthOf(blocks)
		expectNoList(t, fmt.Sprint("GrowthOf ", blocks), a, ok)
	}
}
