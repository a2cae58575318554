package tests

import (
	"fmt"
	"math"
	"math/rand/v2"
	"slices"
	"testing"

	"loop.example/g01104/impl"
)

var rowCounts = []int{1, 2, 4, 8, 16}

var knownTorus = [][]int{{0, 0, 0, 1}, {0, 0, 1, 0}, {1, 0, 1, 1}, {0, 1, 1, 1}}

// noTori have no rows, too many, too long ones or ones of different lengths, more or fewer than 16 numbers, or numbers that are no bits.
var noTori = [][][]int{
	nil, {}, {nil}, {{}}, {{0}}, {{0, 1}, {1, 0}}, {repeated(0, 15)}, {repeated(0, 17)}, {repeated(0, 8), repeated(0, 7)}, {repeated(0, 7), repeated(1, 9)}, {repeated(0, 16), nil}, {nil, repeated(0, 16)},
	{repeated(0, 16), repeated(0, 16)}, {repeated(0, 5), repeated(0, 5), repeated(0, 6)}, {repeated(0, 6), repeated(0, 5), repeated(0, 5)}, slices.Repeat([][]int{{0, 0, 0, 0}}, 3), slices.Repeat([][]int{{0, 0, 0, 0}}, 5),
	{{0, 0, 0, 1}, {0, 0, 1, 0}, {1, 0, 1, 1}, {0, 1, 1}}, {{0, 0, 0, 1}, {0, 0, 1, 0}, {1, 0, 1, 1}, {0, 1, 1, 1, 0}}, {{0, 0, 0, 1}, {0, 0, 1, 0}, {1, 0, 1, 1, 0}, {0, 1, 1}}, {{0, 0, 0}, {0, 0, 1, 0, 1}, {1, 0, 1, 1}, {0, 1, 1, 1}},
	slices.Repeat([][]int{{0, 0, 0}}, 5), slices.Repeat([][]int{{0, 0, 0}}, 4), slices.Repeat([][]int{{0, 0}}, 7), slices.Repeat([][]int{{0, 0}}, 9), slices.Repeat([][]int{{0}}, 15), slices.Repeat([][]int{{0}}, 17),
	slices.Repeat([][]int{{0, 0}}, 16), make([][]int, 16), append(slices.Repeat([][]int{{0}}, 16), nil), append(make([][]int, 15), repeated(0, 16)), append(slices.Repeat([][]int{{0}}, 14), []int{0, 0}, nil),
	{repeated(0, 32)}, {repeated(2, 16)}, {repeated(-1, 16)}, slices.Repeat([][]int{{2}}, 16), {repeated(0, 5000)}, slices.Repeat([][]int{{0, 1}}, 5000),
}

// noSquares are not of four numbers, or of other numbers than bits.
var noSquares = [][]int{
	nil, {}, {0}, {0, 0}, {1, 0, 1}, {0, 0, 0, 0, 0}, {1, 0, 1, 0, 1}, {2, 0, 0, 0}, {0, 2, 0, 0}, {0, 0, 2, 0}, {0, 0, 0, 2}, {-1, 0, 0, 0}, {0, -1, 1, 1}, {1, 0, -1, 0}, {0, 1, 0, -1},
	{0, 0, 0, math.MaxInt}, {math.MinInt, 0, 0, 0}, {0, 0, 0, 12}, repeated(0, 16), repeated(0, 5000),
}

// rowsOf cuts numbers into rows.
func rowsOf(numbers []int, rows int) [][]int {
	var cut [][]int
	for len(cut) < rows {
		from := len(cut) * len(numbers) / rows
		cut = append(cut, slices.Clone(numbers[from:from+len(numbers)/rows]))
	}
	return cut
}

// bitsFrom has the bits of a number, the greatest first, so that greater numbers have greater bits.
func bitsFrom(x, count int) []int {
	var bits []int
	for i := count - 1; i >= 0; i-- {
		bits = append(bits, x>>i&1)
	}
	return bits
}

// plainSquares has the windows of a torus, row by row.
func plainSquares(rows [][]int) [][4]int {
	var squares [][4]int
	for i, row := range rows {
		below := rows[0]
		if i+1 < len(rows) {
			below = rows[i+1]
		}
		for j := range row {
			right := j + 1
			if right == len(row) {
				right = 0
			}
			squares = append(squares, [4]int{row[j], row[right], below[j], below[right]})
		}
	}
	return squares
}

func plainTorus(rows [][]int) bool {
	var met [16]bool
	for _, square := range plainSquares(rows) {
		number := square[0]*8 + square[1]*4 + square[2]*2 + square[3]
		if met[number] {
			return false
		}
		met[number] = true
	}
	return true
}

// goodTori are all of four rows and columns whose windows differ, in lexicographic order.
func goodTori() [][][]int {
	var found [][][]int
	for x := range 1 << 16 {
		if rows := rowsOf(bitsFrom(x, 16), 4); plainTorus(rows) {
			found = append(found, rows)
		}
	}
	return found
}

// someTori have all numbers of rows.
func someTori() [][][]int {
	random := rand.New(rand.NewPCG(9, 5))
	tori := [][][]int{knownTorus}
	for _, count := range rowCounts {
		tori = append(tori, rowsOf(repeated(0, 16), count), rowsOf(repeated(1, 16), count), rowsOf(append(repeated(0, 15), 1), count), rowsOf(append([]int{1}, repeated(0, 15)...), count))
		for range 10 {
			tori = append(tori, rowsOf(randomLetters(random, 16, 2), count))
		}
	}
	return tori
}

func expectTorus(t *testing.T, rows [][]int, want bool) {
	t.Helper()
	got, ok := impl.IsTorus(impl.Torus{Rows: rows})
	if !ok || got != want {
		t.Errorf("IsTorus %v: %v, %v instead of %v, true", rows, got, ok, want)
	}
}

func expectSquarePlaces(t *testing.T, rows [][]int) {
	t.Helper()
	squares := plainSquares(rows)
	for x := range 16 {
		window := bitsFrom(x, 4)
		name := fmt.Sprint("TorusPlace ", rows, window)
		i, j, ok := impl.TorusPlace(impl.Torus{Rows: rows}, window)
		if !plainTorus(rows) {
			expectNoPair(t, name, i, j, ok)
			continue
		}
		place := slices.Index(squares, [4]int(window))
		expectPair(t, name, i, j, ok, place/len(rows[0]), place%len(rows[0]))
	}
}

// turnedOnce takes each row to the place above it, or each column to that on its left.
func turnedOnce(rows [][]int, down bool) [][]int {
	if down {
		return append(cloneAll(rows[1:]), slices.Clone(rows[0]))
	}
	var turned [][]int
	for _, row := range rows {
		turned = append(turned, append(slices.Clone(row[1:]), row[0]))
	}
	return turned
}

func expectTurned(t *testing.T, rows [][]int, down, right int, want [][]int) {
	t.Helper()
	turned, ok := impl.TurnTorus(impl.Torus{Rows: rows}, down, right)
	expectLists(t, fmt.Sprint("TurnTorus ", rows, down, right), turned.Rows, ok, want)
}

func expectNotTurned(t *testing.T, rows [][]int, down, right int) {
	t.Helper()
	turned, ok := impl.TurnTorus(impl.Torus{Rows: rows}, down, right)
	expectNoLists(t, fmt.Sprint("TurnTorus ", rows, down, right), turned.Rows, ok)
}

func expectNoTorus(t *testing.T, rows [][]int) {
	t.Helper()
	got, ok := impl.IsTorus(impl.Torus{Rows: rows})
	expectNoFact(t, fmt.Sprint("IsTorus ", rows), got, ok)
	i, j, ok := impl.TorusPlace(impl.Torus{Rows: rows}, []int{0, 0, 0, 0})
	expectNoPair(t, fmt.Sprint("TorusPlace ", rows), i, j, ok)
	expectNotTurned(t, rows, 0, 0)
}

// TestAllTori finds those whose windows all differ only among the ones of four rows.
func TestAllTori(t *testing.T) {
	for _, count := range rowCounts {
		good := 0
		for x := range 1 << 16 {
			rows := rowsOf(bitsFrom(x, 16), count)
			want := plainTorus(rows)
			expectTorus(t, rows, want)
			if want {
				good++
			}
		}
		if (good > 0) != (count == 4) {
			t.Errorf("%d tori of %d rows have different windows", good, count)
		}
	}
}

func TestFirstTorus(t *testing.T) {
	first, ok := impl.FirstTorus(4)
	expectLists(t, "FirstTorus 4", first.Rows, ok, goodTori()[0])
	expectLists(t, "FirstTorus 4", first.Rows, ok, knownTorus)
	expectTorus(t, first.Rows, true)
	for _, rows := range []int{1, 2, 8, 16, 0, 3, 5, 6, 7, 9, 12, 15, 17, 32, -1, -4, -16, math.MinInt, math.MaxInt} {
		none, ok := impl.FirstTorus(rows)
		expectNoLists(t, fmt.Sprint("FirstTorus ", rows), none.Rows, ok)
	}
}

func TestSquarePlaces(t *testing.T) {
	for _, rows := range append(goodTori(), someTori()...) {
		expectSquarePlaces(t, rows)
	}
}

func TestNamedSquares(t *testing.T) {
	place := func(i, j int, window ...int) {
		t.Helper()
		gotI, gotJ, ok := impl.TorusPlace(impl.Torus{Rows: knownTorus}, window)
		expectPair(t, fmt.Sprint("TorusPlace ", window), gotI, gotJ, ok, i, j)
	}
	place(0, 0, 0, 0, 0, 0)
	place(0, 2, 0, 1, 1, 0)
	// These go on with the first column, with the first row, and with both.
	place(0, 3, 1, 0, 0, 0)
	place(3, 0, 0, 1, 0, 0)
	place(3, 3, 1, 0, 1, 0)
	for _, window := range noSquares {
		for _, rows := range someTori() {
			i, j, ok := impl.TorusPlace(impl.Torus{Rows: rows}, window)
			expectNoPair(t, fmt.Sprint("TorusPlace ", rows, window), i, j, ok)
		}
	}
}

func TestToriWithEqualWindows(t *testing.T) {
	for i := range 4 {
		for j := range 4 {
			// If all windows differ, half of them begin with 1, so that this is half of the numbers.
			rows := cloneAll(knownTorus)
			rows[i][j] = 1 - rows[i][j]
			expectTorus(t, rows, false)
			expectSquarePlaces(t, rows)
		}
	}
	expectTorus(t, rowsOf(slices.Concat(knownTorus...), 4), true)
	for _, count := range []int{1, 2, 8, 16} {
		expectTorus(t, rowsOf(slices.Concat(knownTorus...), count), false)
	}
}

func TestTurnedTori(t *testing.T) {
	for _, rows := range someTori() {
		lower := rows
		for down := range rows {
			turned := lower
			for right := range rows[0] {
				expectTurned(t, rows, down, right, turned)
				expectTorus(t, turned, plainTorus(rows))
				turned = turnedOnce(turned, false)
			}
			lower = turnedOnce(lower, true)
		}
	}
}

func TestNamedTurnedTori(t *testing.T) {
	expectTurned(t, knownTorus, 0, 0, knownTorus)
	expectTurned(t, knownTorus, 1, 0, [][]int{{0, 0, 1, 0}, {1, 0, 1, 1}, {0, 1, 1, 1}, {0, 0, 0, 1}})
	expectTurned(t, knownTorus, 0, 1, [][]int{{0, 0, 1, 0}, {0, 1, 0, 0}, {0, 1, 1, 1}, {1, 1, 1, 0}})
	expectTurned(t, knownTorus, 3, 3, [][]int{{1, 0, 1, 1}, {1, 0, 0, 0}, {0, 0, 0, 1}, {1, 1, 0, 1}})
	expectTurned(t, [][]int{append(repeated(0, 15), 1)}, 0, 15, [][]int{append([]int{1}, repeated(0, 15)...)})
	expectTurned(t, rowsOf(append(repeated(0, 15), 1), 16), 15, 0, rowsOf(append([]int{1}, repeated(0, 15)...), 16))
}

func TestInvalidTurnedTori(t *testing.T) {
	for _, rows := range someTori() {
		for _, far := range []int{math.MinInt, -16, -1} {
			expectNotTurned(t, rows, far, 0)
			expectNotTurned(t, rows, 0, far)
			expectNotTurned(t, rows, far, far)
		}
		for _, more := range []int{0, 1, 16, 1000, math.MaxInt - 16} {
			expectNotTurned(t, rows, len(rows)+more, 0)
			expectNotTurned(t, rows, 0, len(rows[0])+more)
			expectNotTurned(t, rows, len(rows)-1, len(rows[0])+more)
		}
	}
}

func TestInvalidTori(t *testing.T) {
	for _, rows := range noTori {
		expectNoTorus(t, rows)
	}
	for _, count := range rowCounts {
		for place := range 16 {
			for _, bad := range []int{-1, 2, 12, math.MinInt, math.MaxInt} {
				numbers := append(slices.Concat(knownTorus...), 0)[:16]
				numbers[place] = bad
				expectNoTorus(t, rowsOf(numbers, count))
			}
		}
	}
}
