package tests

import (
	"fmt"
	"math"
	"slices"
	"testing"

	"loop.example/g01104/impl"
)

var badPermutations = [][]int{
	{1}, {-1}, {0, 0}, {0, 2}, {1, 2}, {-1, 0}, {0, 1, 1}, {1, 1, 0}, {0, 1, 3}, {3, 2, 1},
	{math.MinInt}, {math.MaxInt, 0}, upTo(13), downFrom(13), repeated(0, 12), repeated(0, 2000),
}

// inversionsBefore counts by the definition.
func inversionsBefore(list []int) []int {
	counts := make([]int, len(list))
	for i := range list {
		for j := range i {
			if list[j] > list[i] {
				counts[i]++
			}
		}
	}
	return counts
}

// signBySwaps counts the exchanges that sort a list.
func signBySwaps(list []int) int {
	sorted, sign := slices.Clone(list), 1
	for i := range sorted {
		for sorted[i] != i {
			x := sorted[i]
			sorted[i], sorted[x] = sorted[x], x
			sign = -sign
		}
	}
	return sign
}

func TestIsPermutation(t *testing.T) {
	for _, list := range [][]int{nil, {}, {0}, {1, 0}, {2, 0, 1}, upTo(12), downFrom(12)} {
		if !impl.IsPermutation(list) {
			t.Errorf("%v is no permutation", list)
		}
	}
	for _, list := range badPermutations {
		if impl.IsPermutation(list) {
			t.Errorf("%v is a permutation", list)
		}
	}
}

func TestPermutationsInOrder(t *testing.T) {
	for n := range 8 {
		want := sortedOrders(n)
		for r, list := range want {
			name := fmt.Sprint(list)
			if !impl.IsPermutation(list) {
				t.Error("IsPermutation is false:", name)
			}
			rank, ok := impl.PermutationRank(list)
			expectNumber(t, "PermutationRank "+name, rank, ok, r)
			at, ok := impl.PermutationAt(n, r)
			expectList(t, fmt.Sprint("PermutationAt ", n, r), at, ok, list)
			next, ok := impl.NextPermutation(list)
			if r+1 < len(want) {
				expectList(t, "NextPermutation "+name, next, ok, want[r+1])
			} else {
				expectNoList(t, "NextPermutation "+name, next, ok)
			}
		}
		at, ok := impl.PermutationAt(n, len(want))
		expectNoList(t, fmt.Sprint("PermutationAt ", n, len(want)), at, ok)
	}
}

func TestAllPermutations(t *testing.T) {
	for n := range 7 {
		all, ok := impl.AllPermutations(n)
		expectLists(t, fmt.Sprint("AllPermutations ", n), all, ok, sortedOrders(n))
	}
	for _, n := range []int{math.MinInt, -1, 7, 12, 13, math.MaxInt} {
		all, ok := impl.AllPermutations(n)
		expectNoLists(t, fmt.Sprint("AllPermutations ", n), all, ok)
	}
}

func TestInversionsSignAndInverse(t *testing.T) {
	for n := range 8 {
		for _, list := range sortedOrders(n) {
			name := fmt.Sprint(list)
			counts, ok := impl.InversionsOf(list)
			expectList(t, "InversionsOf "+name, counts, ok, inversionsBefore(list))
			back, ok := impl.FromInversions(counts)
			expectList(t, "FromInversions of those of "+name, back, ok, list)
			sign, ok := impl.SignOf(list)
			expectNumber(t, "SignOf "+name, sign, ok, signBySwaps(list))
			want := make([]int, n)
			for i := range want {
				want[i] = slices.Index(list, i)
			}
			inverse, ok := impl.InverseOf(list)
			expectList(t, "InverseOf "+name, inverse, ok, want)
		}
	}
}

func TestPermutationExample(t *testing.T) {
	list := []int{2, 0, 1}
	rank, ok := impl.PermutationRank(list)
	expectNumber(t, "rank", rank, ok, 4)
	counts, ok := impl.InversionsOf(list)
	expectList(t, "inversions", counts, ok, []int{0, 1, 1})
	sign, ok := impl.SignOf(list)
	expectNumber(t, "sign", sign, ok, 1)
}

func TestMostItemsToPermute(t *testing.T) {
	const count = 479001600
	first, last := upTo(12), downFrom(12)
	second := []int{0, 1, 2, 3, 4, 5, 6, 7, 8, 9, 11, 10}
	for _, c := range []struct {
		r    int
		list []int
	}{{0, first}, {1, second}, {count / 12 * 5, []int{5, 0, 1, 2, 3, 4, 6, 7, 8, 9, 10, 11}}, {count - 1, last}} {
		rank, ok := impl.PermutationRank(c.list)
		expectNumber(t, fmt.Sprint("PermutationRank ", c.list), rank, ok, c.r)
		list, ok := impl.PermutationAt(12, c.r)
		expectList(t, fmt.Sprint("PermutationAt 12 ", c.r), list, ok, c.list)
		counts, ok := impl.InversionsOf(c.list)
		expectList(t, fmt.Sprint("InversionsOf ", c.list), counts, ok, inversionsBefore(c.list))
		back, ok := impl.FromInversions(counts)
		expectList(t, fmt.Sprint("FromInversions ", counts), back, ok, c.list)
	}
	next, ok := impl.NextPermutation(first)
	expectList(t, "NextPermutation of the first", next, ok, second)
	next, ok = impl.NextPermutation(last)
	expectNoList(t, "NextPermutation of the last", next, ok)
	list, ok := impl.PermutationAt(12, count)
	expectNoList(t, "PermutationAt behind the last", list, ok)
	sign, ok := impl.SignOf(last)
	expectNumber(t, "SignOf the last", sign, ok, 1)
	sign, ok = impl.SignOf(second)
	expectNumber(t, "SignOf the second", sign, ok, -1)
	inverse, ok := impl.InverseOf(last)
	expectList(t, "InverseOf the last", inverse, ok, last)
}

func TestRanksOfManyItems(t *testing.T) {
	for n := 8; n <= impl.MaxItems; n++ {
		count, _ := impl.Factorial(n)
		for r := 0; r+1 < count; r += count/97 + 1 {
			list, ok := impl.PermutationAt(n, r)
			rank, rankOk := impl.PermutationRank(list)
			if !ok || !rankOk || rank != r {
				t.Errorf("PermutationAt %d %d: %v with the rank %d", n, r, list, rank)
			}
			next, ok := impl.NextPermutation(list)
			rank, rankOk = impl.PermutationRank(next)
			if !ok || !rankOk || rank != r+1 {
				t.Errorf("NextPermutation %v: %v with the rank %d", list, next, rank)
			}
		}
	}
}

func TestNoItemsToPermute(t *testing.T) {
	rank, ok := impl.PermutationRank(nil)
	expectNumber(t, "PermutationRank of none", rank, ok, 0)
	list, ok := impl.PermutationAt(0, 0)
	expectList(t, "PermutationAt of none", list, ok, nil)
	next, ok := impl.NextPermutation(nil)
	expectNoList(t, "NextPermutation of none", next, ok)
	counts, ok := impl.InversionsOf(nil)
	expectList(t, "InversionsOf of none", counts, ok, nil)
	list, ok = impl.FromInversions(nil)
	expectList(t, "FromInversions of none", list, ok, nil)
	sign, ok := impl.SignOf(nil)
	expectNumber(t, "SignOf of none", sign, ok, 1)
	inverse, ok := impl.InverseOf(nil)
	expectList(t, "InverseOf of none", inverse, ok, nil)
	all, ok := impl.AllPermutations(0)
	expectLists(t, "AllPermutations of none", all, ok, [][]int{{}})
}

func TestInvalidPermutations(t *testing.T) {
	for _, list := range badPermutations {
		name := fmt.Sprint(list)
		rank, ok := impl.PermutationRank(list)
		expectNoNumber(t, "PermutationRank "+name, rank, ok)
		next, ok := impl.NextPermutation(list)
		expectNoList(t, "NextPermutation "+name, next, ok)
		counts, ok := impl.InversionsOf(list)
		expectNoList(t, "InversionsOf "+name, counts, ok)
		sign, ok := impl.SignOf(list)
		expectNoNumber(t, "SignOf "+name, sign, ok)
		inverse, ok := impl.InverseOf(list)
		expectNoList(t, "InverseOf "+name, inverse, ok)
	}
	for _, c := range [][2]int{{-1, 0}, {13, 0}, {math.MinInt, 0}, {math.MaxInt, 0}, {3, -1}, {3, 6}, {3, math.MinInt}, {3, math.MaxInt}, {0, 1}, {1, 1}} {
		list, ok := impl.PermutationAt(c[0], c[1])
		expectNoList(t, fmt.Sprint("PermutationAt ", c), list, ok)
	}
}

func TestInvalidInversions(t *testing.T) {
	bad := [][]int{
		{1}, {-1}, {0, 2}, {0, -1}, {1, 1}, {0, 1, 3}, {0, 0, -1}, {math.MinInt}, {0, math.MaxInt},
		append(upTo(12), 12), repeated(0, 13), repeated(0, 2000), {0, 2, 0}, {0, -1, 0},
	}
	for _, counts := range bad {
		list, ok := impl.FromInversions(counts)
		expectNoList(t, fmt.Sprint("FromInversions ", counts), list, ok)
	}
	list, ok := impl.FromInversions(repeated(0, 12))
	expectList(t, "FromInversions of zeros", list, ok, upTo(12))
}
