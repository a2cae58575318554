package impl

import "slices"

const MaxItems = 12
const MaxList = 1100

const (
	maxAllItems = 6
	leastBase   = 2
	mostBase    = 12
	maxProduct  = 1000000
)

// number is an element whose comparisons are passed on as method expressions.
type number int

func (a number) isLess(b number) bool { return a < b }

func (a number) isGreater(b number) bool { return a > b }

func (a number) isAtLeast(b number) bool { return a >= b }

// countRelated returns how many elements of list are related to x.
func countRelated[T ~int](list []int, x T, related func(T, T) bool) int {
	count := 0
	for _, y := range list {
		if related(T(y), x) {
			count++
		}
	}
	return count
}

// lastRelated returns the last index whose element is related to x, or -1.
func lastRelated[T ~int](list []int, x T, related func(T, T) bool) int {
	i := len(list) - 1
	for i >= 0 && !related(T(list[i]), x) {
		i--
	}
	return i
}

// lastRelatedPair returns the last index whose element is related to the one behind it, or -1.
func lastRelatedPair[T ~int](list []int, related func(T, T) bool) int {
	i := len(list) - 2
	for i >= 0 && !related(T(list[i]), T(list[i+1])) {
		i--
	}
	return max(i, -1)
}

// listFrom returns first and all that come behind it, count of them altogether.
func listFrom[T any](first T, count int, next func(T) (T, bool)) []T {
	list := make([]T, 0, count)
	for one, ok := first, true; ok; one, ok = next(one) {
		list = append(list, one)
	}
	return list
}

// areAllOnce reports whether each rank less than count is that of just one list.
func areAllOnce(count int, lists [][]int, rankOf func([]int) (int, bool)) bool {
	if len(lists) != count {
		return false
	}
	met := make([]bool, count)
	for _, list := range lists {
		rank, ok := rankOf(list)
		if !ok || met[rank] {
			return false
		}
		met[rank] = true
	}
	return true
}

// copyOf is used instead of slices.Clone because a clone may have spare capacity.
func copyOf[T any](list []T) []T {
	made := make([]T, len(list))
	copy(made, list)
	return made
}

func firstNumbers(n int) []int {
	list := make([]int, n)
	for i := range list {
		list[i] = i
	}
	return list
}

// takeOut returns the element at an index and the other ones, which stay in the memory of list.
func takeOut(list []int, at int) (int, []int) {
	x := list[at]
	return x, slices.Delete(list, at, at+1)
}

func isItemCount(n int) bool { return 0 <= n && n <= MaxItems }

func areBelow(list []int, n int) bool {
	for _, x := range list {
		if x < 0 || x >= n {
			return false
		}
	}
	return true
}

// factorial requires n in 0..20, where the product fits into an int.
func factorial(n int) int {
	product := 1
	for i := 2; i <= n; i++ {
		product *= i
	}
	return product
}

// choose returns 0 where there is no combination. It requires a small n, so that no product overflows.
func choose(n, k int) int {
	if k < 0 || k > n {
		return 0
	}
	count := 1
	for i := range k {
		// Each quotient is choose(n, i+1), so that nothing is lost by the division.
		count = count * (n - i) / (i + 1)
	}
	return count
}

// Factorial returns the product of 1, .., n, for n in 0..MaxItems.
func Factorial(n int) (int, bool) {
	if !isItemCount(n) {
		return 0, false
	}
	return factorial(n), true
}

// Binomial returns the number of combinations of n with k elements, for n in 0..MaxItems and k in 0..MaxItems.
func Binomial(n int, k int) (int, bool) {
	if !isItemCount(n) || !isItemCount(k) {
		return 0, false
	}
	return choose(n, k), true
}

// IsCombination reports whether n is in 0..MaxItems and list a combination of n.
func IsCombination(n int, list []int) bool {
	return isItemCount(n) && areBelow(list, n) && lastRelatedPair(list, number.isAtLeast) < 0
}

// CombinationRank returns the rank of a combination of n in lexicographic order.
func CombinationRank(n int, list []int) (int, bool) {
	if !IsCombination(n, list) {
		return 0, false
	}
	rank, least := 0, 0
	for i, x := range list {
		for y := least; y < x; y++ {
			rank += choose(n-1-y, len(list)-1-i)
		}
		least = x + 1
	}
	return rank, true
}

// CombinationAt returns the combination of n with k elements and the rank r.
// It fails if there is none.
func CombinationAt(n int, k int, r int) ([]int, bool) {
	if !isItemCount(n) || !isItemCount(k) || r < 0 || r >= choose(n, k) {
		return nil, false
	}
	list := make([]int, 0, k)
	for x := 0; len(list) < k; x++ {
		withX := choose(n-1-x, k-1-len(list))
		if r < withX {
			list = append(list, x)
		} else {
			r -= withX
		}
	}
	return list, true
}

// NextCombination returns the lexicographically next combination.
// It fails for the last one.
func NextCombination(n int, list []int) ([]int, bool) {
	if !IsCombination(n, list) {
		return nil, false
	}
	i := len(list) - 1
	for i >= 0 && list[i] == n-len(list)+i {
		i--
	}
	if i < 0 {
		return nil, false
	}
	next := copyOf(list)
	next[i]++
	for j := i + 1; j < len(next); j++ {
		next[j] = next[j-1] + 1
	}
	return next, true
}

// ColexRank returns the rank of a combination of MaxItems in colexicographic order.
func ColexRank(list []int) (int, bool) {
	if !IsCombination(MaxItems, list) {
		return 0, false
	}
	rank := 0
	for i, x := range list {
		rank += choose(x, i+1)
	}
	return rank, true
}

// ColexAt returns the combination of MaxItems with k elements and the rank r in colexicographic order.
// It fails if there is none.
func ColexAt(k int, r int) ([]int, bool) {
	if !isItemCount(k) || r < 0 || r >= choose(MaxItems, k) {
		return nil, false
	}
	list := make([]int, k)
	x := MaxItems
	for i := k - 1; i >= 0; i-- {
		x--
		for choose(x, i+1) > r {
			x--
		}
		list[i] = x
		r -= choose(x, i+1)
	}
	return list, true
}

// AllCombinations returns all combinations of n with k elements, in lexicographic order, none if k is greater than n.
func AllCombinations(n int, k int) ([][]int, bool) {
	if !isItemCount(n) || !isItemCount(k) {
		return nil, false
	}
	if k > n {
		return nil, true
	}
	next := func(list []int) ([]int, bool) { return NextCombination(n, list) }
	return listFrom(firstNumbers(k), choose(n, k), next), true
}

// IsPermutation reports whether list is a permutation.
func IsPermutation(list []int) bool {
	if !isItemCount(len(list)) || !areBelow(list, len(list)) {
		return false
	}
	var met [MaxItems]bool
	for _, x := range list {
		if met[x] {
			return false
		}
		met[x] = true
	}
	return true
}

// permutationRank requires a permutation.
func permutationRank(list []int) int {
	rank := 0
	for i, x := range list {
		rank = rank*(len(list)-i) + countRelated(list[i+1:], number(x), number.isLess)
	}
	return rank
}

// PermutationRank returns the rank of a permutation in lexicographic order.
func PermutationRank(list []int) (int, bool) {
	if !IsPermutation(list) {
		return 0, false
	}
	return permutationRank(list), true
}

// PermutationAt returns the permutation of n with the rank r.
// It fails if there is none.
func PermutationAt(n int, r int) ([]int, bool) {
	if !isItemCount(n) || r < 0 || r >= factorial(n) {
		return nil, false
	}
	list := make([]int, n)
	left := firstNumbers(n)
	for i := range list {
		behind := factorial(n - 1 - i)
		list[i], left = takeOut(left, r/behind)
		r %= behind
	}
	return list, true
}

// NextPermutation returns the lexicographically next permutation.
// It fails for the last one.
func NextPermutation(list []int) ([]int, bool) {
	if !IsPermutation(list) {
		return nil, false
	}
	i := lastRelatedPair(list, number.isLess)
	if i < 0 {
		return nil, false
	}
	// All behind i falls, so that the last greater element is the least one.
	j := lastRelated(list, number(list[i]), number.isGreater)
	next := copyOf(list)
	next[i], next[j] = next[j], next[i]
	slices.Reverse(next[i+1:])
	return next, true
}

// InversionsOf returns for each index how many inversions there are at it.
func InversionsOf(list []int) ([]int, bool) {
	if !IsPermutation(list) {
		return nil, false
	}
	counts := make([]int, len(list))
	for i, x := range list {
		counts[i] = countRelated(list[:i], number(x), number.isGreater)
	}
	return counts, true
}

// FromInversions returns the permutation with the given InversionsOf.
// It fails if there is none, or there are more than MaxItems numbers.
func FromInversions(counts []int) ([]int, bool) {
	if !isItemCount(len(counts)) {
		return nil, false
	}
	for i, count := range counts {
		if count < 0 || count > i {
			return nil, false
		}
	}
	list := make([]int, len(counts))
	left := firstNumbers(len(counts))
	// From the end on, all that is left stands before the index, so that the count tells which one it is.
	for i := len(counts) - 1; i >= 0; i-- {
		list[i], left = takeOut(left, i-counts[i])
	}
	return list, true
}

// SignOf returns the sign.
func SignOf(list []int) (int, bool) {
	counts, ok := InversionsOf(list)
	if !ok {
		return 0, false
	}
	sign := 1
	for _, count := range counts {
		if count%2 == 1 {
			sign = -sign
		}
	}
	return sign, true
}

// InverseOf returns the permutation that has at the index list[i] the element i.
func InverseOf(list []int) ([]int, bool) {
	if !IsPermutation(list) {
		return nil, false
	}
	inverse := make([]int, len(list))
	for i, x := range list {
		inverse[x] = i
	}
	return inverse, true
}

// AllPermutations returns all permutations of n, in lexicographic order, for n in 0..6.
func AllPermutations(n int) ([][]int, bool) {
	if n < 0 || n > maxAllItems {
		return nil, false
	}
	return listFrom(firstNumbers(n), factorial(n), NextPermutation), true
}

// productOf returns the product of bases. It fails if they are none.
func productOf(bases []int) (int, bool) {
	if len(bases) > MaxItems {
		return 0, false
	}
	// MaxItems factors of at most mostBase do not overflow, so that the limit can be checked at the end.
	product := 1
	for _, base := range bases {
		if base < leastBase || base > mostBase {
			return 0, false
		}
		product *= base
	}
	if product > maxProduct {
		return 0, false
	}
	return product, true
}

// areDigits requires bases.
func areDigits(bases []int, digits []int) bool {
	if len(digits) != len(bases) {
		return false
	}
	for i, digit := range digits {
		if digit < 0 || digit >= bases[i] {
			return false
		}
	}
	return true
}

// DigitsAt returns the digits with a rank r.
// It fails if there are none.
func DigitsAt(bases []int, r int) ([]int, bool) {
	product, ok := productOf(bases)
	if !ok || r < 0 || r >= product {
		return nil, false
	}
	digits := make([]int, len(bases))
	for i := len(bases) - 1; i >= 0; i-- {
		digits[i] = r % bases[i]
		r /= bases[i]
	}
	return digits, true
}

// RankOfDigits returns the rank of digits.
func RankOfDigits(bases []int, digits []int) (int, bool) {
	if _, ok := productOf(bases); !ok || !areDigits(bases, digits) {
		return 0, false
	}
	rank := 0
	for i, digit := range digits {
		rank = rank*bases[i] + digit
	}
	return rank, true
}
