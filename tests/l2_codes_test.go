package tests

import (
	"fmt"
	"math"
	"slices"
	"testing"

	"loop.example/g01104/impl"
)

// mirroredWords makes the reflected list by putting it together with itself backwards.
func mirroredWords(n int) []int {
	words := []int{0, 1}
	for bit := 1; bit < n; bit++ {
		for i := len(words) - 1; i >= 0; i-- {
			words = append(words, words[i]+1<<bit)
		}
	}
	return words
}

// differingBits returns the numbers of all bits in which two words differ.
func differingBits(a, b int) []int {
	var bits []int
	for bit := range impl.MaxBits {
		if a>>bit&1 != b>>bit&1 {
			bits = append(bits, bit)
		}
	}
	return bits
}

// plainDeltas returns the changed bits, going round if round is true.
func plainDeltas(list []int, round bool) ([]int, bool) {
	if round {
		list = append(slices.Clone(list), list[0])
	}
	var deltas []int
	for i := 1; i < len(list); i++ {
		bits := differingBits(list[i-1], list[i])
		if len(bits) != 1 {
			return nil, false
		}
		deltas = append(deltas, bits[0])
	}
	return deltas, true
}

func sortedOf(list []int) []int { return slices.Sorted(slices.Values(list)) }

// plainKind tells whether a list is a code, and whether it is a round one.
func plainKind(n int, list []int) (code, round bool) {
	if !slices.Equal(sortedOf(list), upTo(1<<n)) {
		return false, false
	}
	_, code = plainDeltas(list, false)
	_, round = plainDeltas(list, true)
	return code, round
}

// codesOf finds all codes of n bits that begin with path.
func codesOf(n int, path []int) [][]int {
	if len(path) == 1<<n {
		return [][]int{slices.Clone(path)}
	}
	var codes [][]int
	for bit := range n {
		if w := path[len(path)-1] ^ 1<<bit; !slices.Contains(path, w) {
			codes = append(codes, codesOf(n, append(slices.Clone(path), w))...)
		}
	}
	return codes
}

func expectFact(t *testing.T, what string, got, ok, want bool) {
	t.Helper()
	if !ok || got != want {
		t.Errorf("%s: %v, %v instead of %v, true", what, got, ok, want)
	}
}

func expectNoFact(t *testing.T, what string, got, ok bool) {
	t.Helper()
	if ok || got {
		t.Errorf("%s: %v, %v instead of false, false", what, got, ok)
	}
}

func expectPair(t *testing.T, what string, a, b int, ok bool, wantA, wantB int) {
	t.Helper()
	if !ok || a != wantA || b != wantB {
		t.Errorf("%s: %d, %d, %v instead of %d, %d, true", what, a, b, ok, wantA, wantB)
	}
}

func expectNoPair(t *testing.T, what string, a, b int, ok bool) {
	t.Helper()
	if ok || a != 0 || b != 0 {
		t.Errorf("%s: %d, %d, %v instead of 0, 0, false", what, a, b, ok)
	}
}

func expectKind(t *testing.T, n int, list []int, code, round bool) {
	t.Helper()
	name := fmt.Sprint(n, list)
	got, ok := impl.IsCode(n, list)
	expectFact(t, "IsCode "+name, got, ok, code)
	got, ok = impl.IsRoundCode(n, list)
	expectFact(t, "IsRoundCode "+name, got, ok, round)
}

func TestReflectedExample(t *testing.T) {
	for r, want := range []int{0, 1, 3, 2, 6, 7, 5, 4} {
		got, ok := impl.ReflectedAt(3, r)
		expectNumber(t, fmt.Sprint("ReflectedAt 3 ", r), got, ok, want)
	}
	next, bit, ok := impl.NextReflected(3, 2)
	expectPair(t, "NextReflected 3 2", next, bit, ok, 6, 2)
}

func TestReflectedList(t *testing.T) {
	for n := 1; n <= impl.MaxBits; n++ {
		words := mirroredWords(n)
		expectKind(t, n, words, true, true)
		for r, w := range words {
			at, ok := impl.ReflectedAt(n, r)
			expectNumber(t, fmt.Sprint("ReflectedAt ", n, r), at, ok, w)
			rank, ok := impl.ReflectedRank(n, w)
			expectNumber(t, fmt.Sprint("ReflectedRank ", n, w), rank, ok, r)
			next, bit, ok := impl.NextReflected(n, w)
			if r+1 == len(words) {
				expectNoPair(t, fmt.Sprint("NextReflected ", n, w), next, bit, ok)
			} else {
				expectPair(t, fmt.Sprint("NextReflected ", n, w), next, bit, ok, words[r+1], differingBits(w, words[r+1])[0])
			}
		}
	}
}

func TestInvalidReflected(t *testing.T) {
	for _, c := range [][2]int{
		{0, 0}, {-1, 0}, {11, 0}, {64, 0}, {math.MinInt, 0}, {math.MaxInt, 0}, {1, 2}, {1, -1}, {3, 8}, {10, 1024}, {10, math.MaxInt}, {10, math.MinInt},
	} {
		at, ok := impl.ReflectedAt(c[0], c[1])
		expectNoNumber(t, fmt.Sprint("ReflectedAt ", c), at, ok)
		rank, ok := impl.ReflectedRank(c[0], c[1])
		expectNoNumber(t, fmt.Sprint("ReflectedRank ", c), rank, ok)
		next, bit, ok := impl.NextReflected(c[0], c[1])
		expectNoPair(t, fmt.Sprint("NextReflected ", c), next, bit, ok)
	}
}

func TestKindsOfAllOrders(t *testing.T) {
	for n := 1; n <= 3; n++ {
		all, round := 0, 0
		for _, list := range sortedOrders(1 << n) {
			isCode, isRound := plainKind(n, list)
			expectKind(t, n, list, isCode, isRound)
			if isCode && list[0] == 0 {
				all++
			}
			if isRound && list[0] == 0 {
				round++
			}
		}
		gotAll, gotRound, ok := impl.CountCodes(n)
		expectPair(t, fmt.Sprint("CountCodes ", n), gotAll, gotRound, ok, all, round)
	}
	for _, n := range []int{math.MinInt, -1, 0, 4, math.MaxInt} {
		all, round, ok := impl.CountCodes(n)
		expectNoPair(t, fmt.Sprint("CountCodes ", n), all, round, ok)
	}
}

func TestListsThatAreNoCodes(t *testing.T) {
	almost := mirroredWords(10)
	almost[1023] = almost[1021]
	for _, c := range []struct {
		n    int
		list []int
	}{
		{1, nil}, {1, []int{0}}, {1, []int{0, 0}}, {1, []int{0, 1, 0}}, {2, []int{0, 1, 3}}, {2, []int{0, 1, 0, 1}}, {2, []int{0, 1, 2, 3}},
		{2, []int{0, 1, 3, 1}}, {2, []int{0, 1, 3, 2, 0}}, {3, []int{0, 1, 3, 2}}, {10, almost}, {10, repeated(0, 1100)}, {10, repeated(1023, 1024)},
	} {
		expectKind(t, c.n, c.list, false, false)
	}
}

// badWords are no lists of words of n bits, or too long ones.
var badWords = []struct {
	n    int
	list []int
}{
	{0, nil}, {0, []int{0}}, {-1, []int{0}}, {11, nil}, {11, []int{0, 1}}, {64, []int{0, 1}}, {math.MinInt, nil}, {math.MaxInt, nil},
	{1, []int{0, 2}}, {2, []int{0, 1, 3, 4}}, {2, []int{-1, 0}}, {3, []int{0, 8}}, {10, []int{1024}}, {10, []int{math.MinInt}}, {10, []int{math.MaxInt}},
	{2, slices.Repeat([]int{0, 1, 3, 2}, 276)}, {1, append(slices.Repeat([]int{0, 1}, 550), 0)}, {1, repeated(0, 5000)},
}

func TestInvalidWords(t *testing.T) {
	for _, c := range badWords {
		name := fmt.Sprint(c.n, c.list)
		fact, ok := impl.IsCode(c.n, c.list)
		expectNoFact(t, "IsCode "+name, fact, ok)
		fact, ok = impl.IsRoundCode(c.n, c.list)
		expectNoFact(t, "IsRoundCode "+name, fact, ok)
		fact, ok = impl.IsEvenlyChanged(c.n, c.list)
		expectNoFact(t, "IsEvenlyChanged "+name, fact, ok)
		run, ok := impl.LeastRun(c.n, c.list)
		expectNoNumber(t, "LeastRun "+name, run, ok)
		list, ok := impl.DeltasOf(c.n, c.list)
		expectNoList(t, "DeltasOf "+name, list, ok)
		list, ok = impl.ChangesOf(c.n, c.list)
		expectNoList(t, "ChangesOf "+name, list, ok)
		list, ok = impl.FlipBits(c.n, c.list, 0)
		expectNoList(t, "FlipBits "+name, list, ok)
		list, ok = impl.TurnList(c.n, c.list, 0)
		expectNoList(t, "TurnList "+name, list, ok)
		list, ok = impl.PathThrough(c.n, c.list)
		expectNoList(t, "PathThrough "+name, list, ok)
		if c.n <= impl.MaxItems {
			list, ok = impl.MoveBits(c.n, c.list, upTo(max(c.n, 0)))
			expectNoList(t, "MoveBits "+name, list, ok)
		}
		even, odd, ok := impl.HalvesOf(c.n, c.list)
		expectNoPair(t, "HalvesOf "+name, even, odd, ok)
	}
}

func TestCodesWithTheirBitsMoved(t *testing.T) {
	for n := 1; n <= 3; n++ {
		for _, code := range codesOf(n, []int{0}) {
			_, round := plainKind(n, code)
			for _, to := range sortedOrders(n) {
				expectMoved(t, n, code, to, round)
			}
			for mask := range 1 << n {
				flipped, ok := impl.FlipBits(n, code, mask)
				expectNumber(t, fmt.Sprint("FlipBits ", n, code, mask, " at the beginning"), flipped[0], ok, mask)
				expectKind(t, n, flipped, true, round)
			}
			for k := range code {
				turned, ok := impl.TurnList(n, code, k)
				expectList(t, fmt.Sprint("TurnList ", n, code, k), turned, ok, append(slices.Clone(code[k:]), code[:k]...))
				expectKind(t, n, turned, round || k == 0, round)
			}
		}
	}
	for _, to := range [][]int{downFrom(10), {3, 1, 4, 0, 5, 9, 2, 6, 8, 7}} {
		expectMoved(t, 10, mirroredWords(10), to, true)
	}
}

// expectMoved looks at each bit of a code with moved bits, and holds the changes against the code's.
func expectMoved(t *testing.T, n int, code, to []int, round bool) {
	t.Helper()
	name := fmt.Sprint("MoveBits ", n, code, to)
	moved, ok := impl.MoveBits(n, code, to)
	if !ok || len(moved) != len(code) {
		t.Errorf("%s: %v, %v", name, moved, ok)
		return
	}
	for i, w := range code {
		for bit := range n {
			if w>>bit&1 != moved[i]>>to[bit]&1 {
				t.Errorf("%s: %v", name, moved)
			}
		}
	}
	expectKind(t, n, moved, true, round)
}

func TestListsThatAreNoCodesAreMoved(t *testing.T) {
	list := []int{5, 5, 0, 6, 1}
	got, ok := impl.MoveBits(3, list, []int{2, 0, 1})
	expectList(t, "MoveBits", got, ok, []int{6, 6, 0, 3, 4})
	got, ok = impl.FlipBits(3, list, 3)
	expectList(t, "FlipBits", got, ok, []int{6, 6, 3, 5, 2})
	got, ok = impl.TurnList(3, list, 3)
	expectList(t, "TurnList", got, ok, []int{6, 1, 5, 5, 0})
	got, ok = impl.MoveBits(3, nil, []int{2, 0, 1})
	expectList(t, "MoveBits of none", got, ok, nil)
	got, ok = impl.FlipBits(10, nil, 1023)
	expectList(t, "FlipBits of none", got, ok, nil)
	for _, length := range []int{1099, 1100} {
		got, ok = impl.FlipBits(1, repeated(0, length), 1)
		expectList(t, "FlipBits of many", got, ok, repeated(1, length))
		got, ok = impl.MoveBits(2, repeated(1, length), []int{1, 0})
		expectList(t, "MoveBits of many", got, ok, repeated(2, length))
		got, ok = impl.TurnList(1, append(repeated(0, length-1), 1), length-1)
		expectList(t, "TurnList of many", got, ok, append([]int{1}, repeated(0, length-1)...))
	}
}

func TestInvalidMovesOfBits(t *testing.T) {
	code := []int{0, 1, 3, 2}
	for _, to := range [][]int{nil, {0}, {0, 0}, {1, 1}, {0, 2}, {-1, 0}, {1, 2}, {0, 1, 2}, {math.MaxInt, 0}, {0, math.MinInt}, upTo(12), upTo(13)} {
		got, ok := impl.MoveBits(2, code, to)
		expectNoList(t, fmt.Sprint("MoveBits to ", to), got, ok)
	}
	got, ok := impl.MoveBits(11, []int{0}, upTo(11))
	expectNoList(t, "MoveBits of 11 bits", got, ok)
	for _, mask := range []int{-1, 4, math.MinInt, math.MaxInt} {
		got, ok := impl.FlipBits(2, code, mask)
		expectNoList(t, fmt.Sprint("FlipBits with ", mask), got, ok)
	}
	for _, k := range []int{-1, 4, 5, math.MinInt, math.MaxInt} {
		got, ok := impl.TurnList(2, code, k)
		expectNoList(t, fmt.Sprint("TurnList by ", k), got, ok)
	}
	got, ok = impl.TurnList(2, nil, 0)
	expectNoList(t, "TurnList of none", got, ok)
}
