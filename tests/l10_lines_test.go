package tests

import (
	"fmt"
	"math"
	"slices"
	"strings"
	"testing"

	"loop.example/g01104/impl"
)

// consoleRow is a line of the document's table with its first word, and how many lists and then how many numbers it tells.
type consoleRow struct {
	word    string
	lists   int
	numbers int
	run     func(now, list, n []int) ([]int, string, bool)
}

// asked is what a question leaves and replies.
func asked(now []int, reply any, ok bool) ([]int, string, bool) { return now, fmt.Sprint(reply), ok }

func askedList(now []int, list []int, ok bool) ([]int, string, bool) {
	return now, plainListText(list), ok
}

func movedBy(now []int, kind, i, j int) ([]int, string, bool) {
	moved, ok := impl.ApplyMove(now, impl.Move{Kind: kind, I: i, J: j})
	return moved, "ok", ok
}

var consoleRows = []consoleRow{
	{"take", 1, 0, func(_, list, _ []int) ([]int, string, bool) { return list, "ok", impl.IsPermutation(list) }},
	{"next", 0, 0, func(now, _, _ []int) ([]int, string, bool) { x, ok := impl.NextPermutation(now); return x, "ok", ok }},
	{"trot", 0, 0, func(now, _, _ []int) ([]int, string, bool) {
		x, at, ok := impl.NextTrotter(now)
		return x, fmt.Sprint(at), ok
	}},
	{"swap", 0, 2, func(now, _, n []int) ([]int, string, bool) { return movedBy(now, impl.MoveSwap, n[0], n[1]) }},
	{"reverse", 0, 1, func(now, _, n []int) ([]int, string, bool) { return movedBy(now, impl.MoveReverse, n[0], 0) }},
	{"rotate", 0, 1, func(now, _, n []int) ([]int, string, bool) { return movedBy(now, impl.MoveRotate, n[0], 0) }},
	{"show", 0, 0, func(now, _, _ []int) ([]int, string, bool) { return askedList(now, now, true) }},
	{"rank", 0, 0, func(now, _, _ []int) ([]int, string, bool) {
		x, ok := impl.PermutationRank(now)
		return asked(now, x, ok)
	}},
	{"sign", 0, 0, func(now, _, _ []int) ([]int, string, bool) {
		x, ok := impl.SignOf(now)
		return asked(now, map[int]string{1: "even", -1: "odd"}[x], ok)
	}},
	{"gray", 0, 2, func(now, _, n []int) ([]int, string, bool) {
		x, ok := impl.ReflectedAt(n[0], n[1])
		return asked(now, x, ok)
	}},
	{"ungray", 0, 2, func(now, _, n []int) ([]int, string, bool) {
		x, ok := impl.ReflectedRank(n[0], n[1])
		return asked(now, x, ok)
	}},
	{"mixed", 1, 1, func(now, list, n []int) ([]int, string, bool) {
		x, ok := impl.MixedAt(list, n[0])
		return askedList(now, x, ok)
	}},
	{"choose", 0, 3, func(now, _, n []int) ([]int, string, bool) {
		x, ok := impl.CombinationAt(n[0], n[1], n[2])
		return askedList(now, x, ok)
	}},
	{"revolve", 0, 3, func(now, _, n []int) ([]int, string, bool) {
		x, ok := impl.RevolvingAt(n[0], n[1], n[2])
		return askedList(now, x, ok)
	}},
	{"halves", 0, 2, func(now, _, n []int) ([]int, string, bool) {
		even, odd, ok := impl.AdjacentHalves(n[0], n[1])
		return asked(now, fmt.Sprint(even, odd), ok)
	}},
	{"growth", 0, 2, func(now, _, n []int) ([]int, string, bool) {
		x, ok := impl.GrowthWith(n[0], n[1])
		return askedList(now, x, ok)
	}},
	{"balanced", 0, 2, func(now, _, n []int) ([]int, string, bool) {
		x, ok := impl.BalancedWith(n[0], n[1])
		return askedList(now, x, ok)
	}},
	{"factors", 1, 0, func(now, list, _ []int) ([]int, string, bool) {
		x, ok := impl.LyndonFactors(list)
		return asked(now, strings.ReplaceAll(strings.Trim(strings.ReplaceAll(fmt.Sprint(x), "] [", "|"), "[]"), " ", ","), ok)
	}},
	{"bruijn", 0, 2, func(now, _, n []int) ([]int, string, bool) {
		x, ok := impl.LeastBruijn(n[0], n[1])
		return askedList(now, x, ok)
	}},
	{"pairs", 0, 1, func(now, _, n []int) ([]int, string, bool) {
		x, ok := impl.PairCycle(n[0])
		return askedList(now, x, ok)
	}},
	{"super", 0, 1, func(now, _, n []int) ([]int, string, bool) { x, ok := impl.SuperOf(n[0]); return askedList(now, x, ok) }},
}

// plainStep returns the line of a row with a list and numbers, and what is behind it.
func (row consoleRow) plainStep(now, list, n []int) (line string, after []int, reply string) {
	words := []string{row.word}
	if row.lists > 0 {
		words = append(words, plainListText(list))
	}
	for _, x := range n {
		words = append(words, fmt.Sprint(x))
	}
	after, reply, ok := row.run(now, list, n)
	if !ok {
		after, reply = now, "no"
	}
	return strings.Join(words, " "), after, reply
}

// goodLines succeed at 0, 1, 2, one for each row.
var goodLines = []string{
	"take 1,0", "next", "trot", "swap 0 1", "reverse 2", "rotate 2", "show", "rank", "sign", "gray 3 4", "ungray 3 6", "mixed 2,3 3", "choose 4 2 3", "revolve 4 2 3", "halves 4 2", "growth 3 4", "balanced 2 1", "factors 1,0", "bruijn 3 2", "pairs 5", "super 3",
}

// unknownLines are lines that do nothing for any permutation.
var unknownLines = []string{
	"", " ", "  ", "fly", "what", "no", "ok", "-", "0", "0,1,2", "even", "t", "tak", "takes", "nexttrot", "nex", "trots", "show\x00", "\x00show", "\ufeffshow", "sh\xffow", "\xff", "é", "rank;", "show|rank", "show,rank", "#", "// show", "help", "quit", "gray", "gray3 4", "gray,3,4", "gray 3,4", "gray(3,4)", "trotter", "apply 0 1",
	"inverse", "growths 3 4", "necklace 3 2", "lyndon 3 2", "torus 4", "order 3", "cool 3 2", "swap", "reverse", "rotate", "take", "choose", "show show", "next 1", "trot 1", "rank 0", "sign -", "\tshow", "show\t", "show\r", "show\v", "gray\t3\t4", "gray\u00a03\u00a04",
}

// consoleNumbers are numbers that lines tell; some are too great for each function.
var consoleNumbers = []int{0, 1, 2, 3, 4, 5, 6, 7, 9, 10, 11, 12, 13, 70, 923, 924, 1023, 1024, 208011, 208012, 999999}

// consoleLists are lists that lines tell.
var consoleLists = [][]int{
	nil, {0}, {1}, {2}, {5}, {6}, {12}, {13}, {999999}, {0, 0}, {0, 1}, {1, 0}, {1, 2}, {2, 3}, {3, 2, 4}, {1, 0, 1, 0, 0}, {0, 1, 2, 3}, {3, 2, 1, 0}, {2, 2, 2, 2, 2, 2, 2, 2, 2, 2, 2, 2}, repeated(10, 6), repeated(10, 7), repeated(12, 5),
	upTo(12), downFrom(12), upTo(13), downFrom(13), repeated(0, 12), repeated(0, 24), repeated(0, 25), slices.Repeat(downFrom(6), 4), slices.Repeat(upTo(6), 4), upTo(700), repeated(0, 1100),
}

// consolePermutations are permutations on which lines are executed.
func consolePermutations() [][]int {
	return slices.Concat(sortedOrders(0), sortedOrders(1), sortedOrders(2), sortedOrders(3), sortedOrders(4)[11:15], [][]int{{4, 0, 3, 1, 2}, {5, 4, 3, 2, 1, 0}, upTo(12), downFrom(12)})
}

func expectLine(t *testing.T, now []int, line string, after []int, reply string) {
	t.Helper()
	list, text, ok := impl.StepLine(now, line)
	if !ok || !slices.Equal(list, after) || text != reply {
		t.Errorf("StepLine %v %q: %v, %q, %v instead of %v, %q, true", now, line, list, text, ok, after, reply)
	}
}

func expectUnknown(t *testing.T, now []int, line string) {
	t.Helper()
	expectLine(t, now, line, now, "what")
}

func expectNoLine(t *testing.T, now []int, line string) {
	t.Helper()
	list, reply, ok := impl.StepLine(now, line)
	if ok || len(list) > 0 || reply != "" {
		t.Errorf("StepLine %v %q: %v, %q, %v instead of nothing, false", now, line, list, reply, ok)
	}
}

func TestLinesDoWhatTheirCallsDo(t *testing.T) {
	for _, row := range consoleRows {
		t.Run(row.word, func(t *testing.T) {
			succeed, fail := 0, 0
			permutations := consolePermutations()
			if row.numbers > 1 && row.word != "swap" {
				permutations = [][]int{{2, 0, 1}}
			}
			for _, now := range permutations {
				forChoices(consoleLists, row.lists, nil, func(lists [][]int) {
					forChoices(consoleNumbers, row.numbers, nil, func(n []int) {
						line, after, reply := row.plainStep(now, slices.Concat(lists...), n)
						expectLine(t, now, line, after, reply)
						if reply == "no" {
							fail++
						} else {
							succeed++
						}
					})
				})
			}
			neverFails := slices.Contains([]string{"show", "rank", "sign"}, row.word)
			if succeed == 0 || fail == 0 != neverFails {
				t.Errorf("%d lines succeed and %d fail", succeed, fail)
			}
		})
	}
}

func TestKnownReplies(t *testing.T) {
	for line, reply := range map[string]string{
		"show": "0,1,2", "rank": "0", "sign": "even",
		"gray 1 0": "0", "gray 1 1": "1", "gray 3 2": "3", "gray 3 4": "6", "gray 3 7": "4", "gray 3 8": "no", "gray 0 0": "no", "gray 10 1023": "512", "gray 11 0": "no", "gray 10 1024": "no",
		"ungray 3 6": "4", "ungray 3 4": "7", "ungray 10 512": "1023", "ungray 3 8": "no", "ungray 11 0": "no",
		"mixed - 0": "-", "mixed - 1": "no", "mixed 2,3 0": "0,0", "mixed 2,3 3": "1,2", "mixed 2,3 5": "1,0", "mixed 2,3 6": "no", "mixed 3,2 5": "2,1", "mixed 1 0": "no", "mixed 13 0": "no", "mixed 12 11": "11",
		"mixed 10,10,10,10,10,10 999999": "9,0,0,0,0,0", "mixed 10,10,10,10,10,10,10 0": "no",
		"choose 4 2 3": "1,2", "choose 4 2 5": "2,3", "choose 4 2 6": "no", "choose 4 0 0": "-", "choose 0 0 0": "-", "choose 3 4 0": "no", "choose 12 6 923": "6,7,8,9,10,11", "choose 13 0 0": "no",
		"revolve 4 2 3": "2,3", "revolve 4 2 0": "0,1", "revolve 4 2 5": "0,3", "revolve 4 2 6": "no", "revolve 4 0 0": "-", "revolve 3 4 0": "no",
		"halves 4 2": "2 4", "halves 0 0": "1 0", "halves 6 3": "10 10", "halves 3 1": "2 1", "halves 2 3": "no", "halves 13 1": "no",
		"growth 1 0": "0", "growth 3 4": "0,1,2", "growth 3 3": "0,1,1", "growth 3 5": "no", "growth 0 0": "no", "growth 13 0": "no",
		"balanced 0 0": "-", "balanced 2 0": "1,0,1,0", "balanced 2 1": "1,1,0,0", "balanced 2 2": "no", "balanced 13 0": "no",
		"factors 1,0,1,0,0": "1|0,1|0|0", "factors 0": "0", "factors 0,1": "0,1", "factors 5,5": "5|5", "factors -": "no", "factors 6": "no", "factors 0,0,1": "0,0,1",
		"bruijn 3 2": "0,0,0,1,0,1,1,1", "bruijn 2 3": "0,0,1,0,2,1,1,2,2", "bruijn 1 6": "0,1,2,3,4,5", "bruijn 1 1": "no", "bruijn 11 2": "no", "bruijn 0 2": "no", "bruijn 5 5": "no",
		"pairs 3": "0,1,2", "pairs 5": "0,1,2,0,3,1,4,2,3,4", "pairs 4": "no", "pairs 1": "no", "pairs 13": "no",
		"super 1": "0", "super 2": "0,1,0", "super 3": "0,1,2,0,1,0,2,1,0", "super 0": "no", "super 6": "no",
	} {
		expectLine(t, []int{0, 1, 2}, line, []int{0, 1, 2}, reply)
	}
}

func TestLongReplies(t *testing.T) {
	now := []int{1, 0}
	growth, _ := impl.GrowthWith(12, 999999)
	expectLine(t, now, "growth 12 999999", now, plainListText(growth))
	balanced, _ := impl.BalancedWith(12, 208011)
	expectLine(t, now, "balanced 12 208011", now, plainListText(balanced))
	long, _ := impl.LeastBruijn(10, 2)
	if len(long) != 1024 {
		t.Error("the longest cycle has", len(long), "letters")
	}
	expectLine(t, now, "bruijn 10 2", now, plainListText(long))
	expectLine(t, now, "super 5", now, strings.Join(strings.Split(plainSuperText(5), ""), ","))
	expectLine(t, now, "pairs 11", now, plainListText(plainLeastPairs(11)))
	expectLine(t, now, "factors "+textOfRepeated("3", 24), now, strings.Repeat("3|", 23)+"3")
	expectLine(t, now, "factors "+textOfRepeated("3", 25), now, "no")
}

func TestUnknownLines(t *testing.T) {
	for _, now := range consolePermutations() {
		for _, line := range unknownLines {
			expectUnknown(t, now, line)
		}
	}
}

func TestGoodLines(t *testing.T) {
	for i, line := range goodLines {
		if !strings.HasPrefix(line+" ", consoleRows[i].word+" ") {
			t.Errorf("the line %q is not one of %s", line, consoleRows[i].word)
		}
		if _, reply, ok := impl.StepLine([]int{0, 1, 2}, line); !ok || reply == "no" || reply == "what" {
			t.Errorf("%q: %q, %v", line, reply, ok)
		}
	}
}

// linesLike has a blank, a letter or a word too many or too few.
func linesLike(line string) []string {
	words := strings.Split(line, " ")
	lines := []string{" " + line, line + " ", "  " + line, line + "  ", line + "\t", line + "\r", "\t" + line, line + "x", "x" + line, line + " 0", line + " -", line + " x", line + " " + line, strings.ToUpper(line[:1]) + line[1:], strings.ToUpper(words[0]) + line[len(words[0]):]}
	for i, character := range line {
		if character == ' ' {
			lines = append(lines, line[:i]+line[i:i+1]+line[i:], line[:i]+"\t"+line[i+1:], line[:i]+line[i+1:], line[:i]+","+line[i+1:])
		}
	}
	for i, word := range words {
		without := slices.Delete(slices.Clone(words), i, i+1)
		twice := slices.Insert(slices.Clone(words), i, word)
		lines = append(lines, strings.Join(without, " "), strings.Join(twice, " "))
	}
	return lines
}

func TestLinesWithWrongWords(t *testing.T) {
	now := []int{0, 1, 2}
	for _, line := range goodLines {
		for _, wrong := range linesLike(line) {
			expectUnknown(t, now, wrong)
		}
	}
}

// TestLinesWithWrongArguments puts each bad number and text at each place of each line.
func TestLinesWithWrongArguments(t *testing.T) {
	now := []int{0, 1, 2}
	for i, line := range goodLines {
		words := strings.Split(line, " ")
		for at := 1; at < len(words); at++ {
			bad := slices.Concat(badNumbers, badListTexts, textsWithBlanks)
			isList := at <= consoleRows[i].lists
			if !isList {
				bad = append(bad, "0,1", "1,2,3", "2,3")
			}
			for _, text := range bad {
				wrong := slices.Clone(words)
				wrong[at] = text
				switch {
				case isList && text == "-":
				case strings.Contains(text, "\n"):
					expectNoLine(t, now, strings.Join(wrong, " "))
				case len(strings.Join(wrong, " ")) > impl.MaxScript:
					expectNoLine(t, now, strings.Join(wrong, " "))
				default:
					expectUnknown(t, now, strings.Join(wrong, " "))
				}
			}
		}
	}
}

// TestWhatComesBeforeNo has lines with a function that would fail, too.
func TestWhatComesBeforeNo(t *testing.T) {
	now := []int{2, 1, 0}
	for _, line := range []string{
		"next 1", "trot ", "swap 1 1 1", "swap 1 01", "swap 01 1", "swap 5 1000000", "reverse 1 ", "reverse -1", "rotate 999999 ", "rotate 1000000", "take 1,1 1", "take 5 ", "take 5,", "gray 0 x", "gray x 0", "gray 11 0 0", "ungray 99 -", "mixed 1 x", "mixed 1, 0", "mixed 1 0 0",
		"choose 13 13 01", "choose 3 4", "choose 3 4 0 0", "choose 13 1000000 0", "revolve 13 0", "revolve 13 0 +1", "halves 13", "halves 1 2 3", "growth 0 00", "balanced 13 1000000", "factors 6,", "factors 6 6", "bruijn 99 -2", "bruijn 99", "pairs 04", "pairs 4 4", "super 06", "super 6 ", "super -1",
	} {
		expectUnknown(t, now, line)
	}
}

// textOfLength returns the text of a list of 1100 numbers of one or two digits.
func textOfLength(length int) string {
	twos := length - (2*1100 - 1)
	return textOfRepeated("10", twos) + "," + textOfRepeated("1", 1100-twos)
}

func TestLineLimits(t *testing.T) {
	now := []int{1, 2, 0}
	expectLine(t, now, "take "+textOfLength(2995), now, "no")
	expectNoLine(t, now, "take "+textOfLength(2996))
	expectLine(t, now, "take "+textOfLength(2994), now, "no")
	expectUnknown(t, now, strings.Repeat("x", 3000))
	expectNoLine(t, now, strings.Repeat("x", 3001))
	expectUnknown(t, now, strings.Repeat(" ", 3000))
	expectNoLine(t, now, strings.Repeat(" ", 3001))
	expectUnknown(t, now, strings.Repeat("é", 1500))
	expectNoLine(t, now, strings.Repeat("é", 1501))
	expectNoLine(t, now, "show"+strings.Repeat(" ", 2997))
	expectLine(t, now, "take "+textOfRepeated("0", 1100), now, "no")
	expectUnknown(t, now, "take "+textOfRepeated("0", 1101))
	expectLine(t, now, "factors "+textOfRepeated("0", 1100), now, "no")
	expectUnknown(t, now, "factors "+textOfRepeated("0", 1101))
	expectLine(t, now, "mixed "+textOfRepeated("2", 1100)+" 0", now, "no")
	expectUnknown(t, now, "mixed "+textOfRepeated("2", 1101)+" 0")
	expectLine(t, now, "take 999999", now, "no")
	expectUnknown(t, now, "take 1000000")
	expectLine(t, now, "pairs 999999", now, "no")
	expectUnknown(t, now, "pairs 1000000")
}

func TestNoLines(t *testing.T) {
	now := []int{0, 1, 2}
	for _, line := range []string{"\n", "show\n", "\nshow", "show\nshow", "fly\n", "\n\n", "take 0,1\n", "take 0\n1", "gray 3\n4", strings.Repeat("\n", 3000), strings.Repeat("x", 2999) + "\n", strings.Repeat("x", 5000), strings.Repeat("show ", 1000)} {
		expectNoLine(t, now, line)
	}
	for _, list := range [][]int{
		{1}, {-1}, {0, 0}, {0, 2}, {1, 2}, {0, 1, 1}, {0, 1, 3}, {-1, 0, 1}, {3, 2, 1}, {math.MinInt}, {math.MaxInt}, {0, math.MaxInt}, upTo(13), downFrom(13), repeated(0, 12), append(upTo(11), 12), upTo(1100), upTo(1101), repeated(0, 5000),
	} {
		for _, line := range slices.Concat(goodLines, unknownLines, []string{"take 0,1,2", "take -"}) {
			expectNoLine(t, list, line)
		}
	}
}
