package tests

import (
	"fmt"
	"math"
	"slices"
	"strings"
	"testing"

	"loop.example/g01104/impl"
)

func textOfBits(bits []int) string {
	text := ""
	for _, bit := range bits {
		text += fmt.Sprint(bit)
	}
	return text
}

func bitsOfText(text string) []int {
	var bits []int
	for _, c := range text {
		bits = append(bits, int(c-'0'))
	}
	return bits
}

// coolText tries all beginnings of a text, from the shortest one on.
func coolText(text string) string {
	for end := range len(text) + 1 {
		beginning := text[:end]
		if strings.HasSuffix(beginning, "010") || strings.HasSuffix(beginning, "011") || end == len(text) && end > 0 {
			return beginning[end-1:] + beginning[:end-1] + text[end:]
		}
	}
	return text
}

var badBits = [][]int{{2}, {-1}, {0, 1, 2}, {0, 1, -1}, {math.MaxInt}, {math.MinInt}, {0, math.MinInt}, upTo(12), repeated(0, 13), repeated(1, 13), repeated(1, 5000)}

func TestBitsOfCombinations(t *testing.T) {
	for n := range impl.MaxItems + 1 {
		for set := range 1 << n {
			list := elementsOf(set)
			want := make([]int, n)
			for x := range n {
				want[x] = set >> x & 1
			}
			got, ok := impl.BitsOf(n, list)
			expectList(t, fmt.Sprint("BitsOf ", n, list), got, ok, want)
			back, ok := impl.FromBits(want)
			expectList(t, fmt.Sprint("FromBits ", want), back, ok, list)
		}
	}
	for _, c := range badCombinations {
		got, ok := impl.BitsOf(c.n, c.list)
		expectNoList(t, fmt.Sprint("BitsOf ", c), got, ok)
	}
	for _, bits := range badBits {
		got, ok := impl.FromBits(bits)
		expectNoList(t, fmt.Sprint("FromBits ", bits), got, ok)
	}
}

func TestCoolExample(t *testing.T) {
	all, ok := impl.CoolList(4, 2)
	expectLists(t, "CoolList 4 2", all, ok, [][]int{{1, 1, 0, 0}, {0, 1, 1, 0}, {1, 0, 1, 0}, {0, 1, 0, 1}, {0, 0, 1, 1}, {1, 0, 0, 1}})
}

func TestCoolSteps(t *testing.T) {
	for _, c := range [][2]string{
		{"", ""}, {"0", "0"}, {"1", "1"}, {"01", "10"}, {"10", "01"}, {"00", "00"}, {"11", "11"},
		{"010", "001"}, {"011", "101"}, {"001", "100"}, {"100", "010"}, {"110", "011"}, {"101", "110"}, {"111", "111"}, {"000", "000"},
		{"1100", "0110"}, {"110001", "111000"}, {"0100", "0010"}, {"0111", "1011"}, {"01011", "00111"}, {"00110", "10010"}, {"1101001", "0110101"},
		{"111111111111", "111111111111"}, {"000000000001", "100000000000"}, {"000000000011", "100000000001"}, {"011111111111", "101111111111"},
	} {
		got, ok := impl.NextCool(bitsOfText(c[0]))
		expectList(t, "NextCool "+c[0], got, ok, bitsOfText(c[1]))
	}
	for _, bits := range badBits {
		got, ok := impl.NextCool(bits)
		expectNoList(t, fmt.Sprint("NextCool ", bits), got, ok)
	}
}

func TestCoolList(t *testing.T) {
	for n := range impl.MaxItems + 1 {
		for k := range n + 1 {
			start := strings.Repeat("1", k) + strings.Repeat("0", n-k)
			want := [][]int{bitsOfText(start)}
			for text := coolText(start); text != start; text = coolText(text) {
				want = append(want, bitsOfText(text))
			}
			name := fmt.Sprint(n, k)
			all, ok := impl.CoolList(n, k)
			expectLists(t, "CoolList "+name, all, ok, want)
			expectAllBits(t, n, k, all)
			for r, bits := range want {
				rank, ok := impl.CoolRank(bits)
				expectNumber(t, "CoolRank "+textOfBits(bits), rank, ok, r)
				next, ok := impl.NextCool(bits)
				expectList(t, "NextCool "+textOfBits(bits), next, ok, want[(r+1)%len(want)])
			}
		}
	}
}

// expectAllBits holds the combinations of a CoolList against all that there are.
func expectAllBits(t *testing.T, n, k int, all [][]int) {
	t.Helper()
	var lists [][]int
	for _, bits := range all {
		list, _ := impl.FromBits(bits)
		lists = append(lists, list)
	}
	slices.SortFunc(lists, slices.Compare[[]int])
	expectLists(t, fmt.Sprint("combinations of CoolList ", n, k), lists, true, sortedSubsets(n, k))
}

func TestInvalidCool(t *testing.T) {
	for _, c := range badChoices {
		all, ok := impl.CoolList(c[0], c[1])
		expectNoLists(t, fmt.Sprint("CoolList ", c), all, ok)
	}
	for _, bits := range badBits {
		rank, ok := impl.CoolRank(bits)
		expectNoNumber(t, fmt.Sprint("CoolRank ", bits), rank, ok)
	}
	rank, ok := impl.CoolRank(nil)
	expectNumber(t, "CoolRank of no bits", rank, ok, 0)
}
