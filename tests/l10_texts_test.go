package tests

import (
	"fmt"
	"math"
	"math/rand/v2"
	"regexp"
	"slices"
	"strings"
	"testing"

	"loop.example/g01104/impl"
)

// noConsoleLists are too long, or have numbers that no text of a list has.
var noConsoleLists = [][]int{
	{-1}, {1000000}, {math.MinInt}, {math.MaxInt}, {0, -1}, {-1, 0}, {0, 1000000}, {1000000, 0}, {5, 1000000, 5}, {999999, 1000001},
	repeated(0, 1101), repeated(999999, 1101), upTo(1101), append(repeated(0, 1099), -1), append(repeated(0, 1099), 1000000), repeated(7, 5000),
}

// badNumbers are words that tell no number from 0 to 999999, or not as a script has to.
var badNumbers = []string{
	"", "-", "-1", "-0", "+0", "+1", "00", "01", "007", "000000", "0000001", "0999999", "1000000", "1000001", "9999999", "2147483648", "9223372036854775807", "9223372036854775808", "18446744073709551617", "x", "1x", "x1", "0x1", "0b1", "0o7", "1e3",
	"1.0", "1.", ".5", "1_0", "1'000", "1 ", "a", "O", "l", "1\t", "\t1", "1\r", "\v1", "1\x00", "\x00", "\x001", "\xff", "1\xff", "é", "٣", "1٣", "３", "\u00a01", "\ufeff1", "−1", "½", "Inf", "NaN", "(1)", "\"1\"", "/", ":", "1/", "1:",
	strings.Repeat("1", 7), strings.Repeat("1", 30), strings.Repeat("0", 30) + "1",
}

// badListTexts are texts of no list, also if their numbers are some.
var badListTexts = []string{
	",", ",,", "0,", ",0", ",0,", "0,,1", "0,1,,2", "0,1,", ",0,1", "--", "-,", ",-", "-,-", "-,0", "0,-", "0,-,1", "1-2", "-1,0", "0,-1", "0,+1", "+0,1", "0,01", "00,1", "0,1000000", "1000000,0", "0;1", "0.1", "0|1", "0/1", "0:1", "0\n1", "0，1", "0، 1",
	"[0,1]", "[]", "0,x", "x,0", "0,1x", "0,\x00", "0,\xff", "0,1\r", "0,1\t", "none", "- ", " -", "−", "–", "0,9223372036854775808", "1,18446744073709551616",
	textOfRepeated("0", 1101), textOfRepeated("999999", 1101), textOfRepeated("0", 1100) + ",", "," + textOfRepeated("0", 1099), textOfRepeated("0", 1099) + ",x", textOfRepeated("0", 1099) + ",1000000", textOfRepeated("0", 5000), strings.Repeat(",", 5000),
}

// textsWithBlanks are texts of no list, too, but more than one word of a line.
var textsWithBlanks = []string{" ", " 0", "0 ", "0 1", "0, 1", "0 ,1", " 0,1", "0,1 ", "0,1 ,2", "0, ,1"}

// textForm is that of the text of a list with any length.
var textForm = regexp.MustCompile(`^(-|(0|[1-9][0-9]{0,5})(,(0|[1-9][0-9]{0,5}))*)$`)

func textOfRepeated(number string, count int) string {
	return strings.Repeat(number+",", count-1) + number
}

// plainListText puts commas between the numbers as they are printed.
func plainListText(list []int) string {
	if len(list) == 0 {
		return "-"
	}
	return strings.Trim(strings.ReplaceAll(fmt.Sprint(list), " ", ","), "[]")
}

func expectListText(t *testing.T, list []int, want string) {
	t.Helper()
	text, ok := impl.ListText(list)
	expectText(t, fmt.Sprint("ListText ", list), text, ok, want)
	parsed, ok := impl.ParseList(want)
	expectList(t, fmt.Sprintf("ParseList %q", want), parsed, ok, list)
}

func expectNoListText(t *testing.T, text string) {
	t.Helper()
	list, ok := impl.ParseList(text)
	expectNoList(t, fmt.Sprintf("ParseList %q", text), list, ok)
}

func TestListTexts(t *testing.T) {
	expectListText(t, nil, "-")
	expectListText(t, []int{}, "-")
	expectListText(t, []int{0}, "0")
	expectListText(t, []int{5}, "5")
	expectListText(t, []int{999999}, "999999")
	expectListText(t, []int{0, 1, 2}, "0,1,2")
	expectListText(t, []int{0, 0}, "0,0")
	expectListText(t, []int{10, 0, 100}, "10,0,100")
	expectListText(t, []int{999999, 0, 999999}, "999999,0,999999")
	expectListText(t, []int{1, 23, 456, 7890, 12345, 678901}, "1,23,456,7890,12345,678901")
	expectListText(t, repeated(0, 1100), textOfRepeated("0", 1100))
	expectListText(t, repeated(999999, 1100), textOfRepeated("999999", 1100))
	expectListText(t, repeated(7, 1099), textOfRepeated("7", 1099))
	expectListText(t, upTo(1100), plainListText(upTo(1100)))
}

func TestRandomListTexts(t *testing.T) {
	random := rand.New(rand.NewPCG(10, 1))
	for range 2000 {
		list := make([]int, random.IntN(40))
		for i := range list {
			list[i] = random.IntN([]int{2, 12, 100, 1000, 1000000}[random.IntN(5)])
		}
		expectListText(t, list, plainListText(list))
	}
}

func TestEachNumberAsText(t *testing.T) {
	for x := range 1000000 {
		want := fmt.Sprint(x)
		text, ok := impl.ListText([]int{x})
		if !ok || text != want {
			t.Fatalf("ListText %d: %q, %v", x, text, ok)
		}
		if list, ok := impl.ParseList(want); !ok || len(list) != 1 || list[0] != x {
			t.Fatalf("ParseList %q: %v, %v", want, list, ok)
		}
	}
}

// TestAllShortTexts looks at all texts of at most 6 of some characters.
func TestAllShortTexts(t *testing.T) {
	for length := range 7 {
		forChoices([]byte("019,-+ "), length, nil, func(characters []byte) {
			text := string(characters)
			list, ok := impl.ParseList(text)
			if ok != textForm.MatchString(text) || ok && plainListText(list) != text || !ok && len(list) > 0 {
				t.Errorf("ParseList %q: %v, %v", text, list, ok)
			}
		})
	}
}

func TestEachByteInTexts(t *testing.T) {
	for character := range 256 {
		one := string([]byte{byte(character)})
		for _, text := range []string{one, "3" + one, one + "3", "3" + one + "4", "3," + one, one + ",3", "3," + one + ",4"} {
			list, ok := impl.ParseList(text)
			if ok != textForm.MatchString(text) || ok && plainListText(list) != text || !ok && len(list) > 0 {
				t.Errorf("ParseList %q: %v, %v", text, list, ok)
			}
		}
	}
	for character := rune(128); character <= 0x10ffff; character++ {
		if list, ok := impl.ParseList("1" + string(character)); ok || len(list) > 0 {
			t.Fatalf("ParseList of 1 and %q: %v, %v", character, list, ok)
		}
	}
}

func TestNoListTexts(t *testing.T) {
	for _, list := range noConsoleLists {
		text, ok := impl.ListText(list)
		expectNoText(t, fmt.Sprint("ListText ", list), text, ok)
	}
	for _, text := range slices.Concat(badNumbers, badListTexts, textsWithBlanks) {
		if text != "-" {
			expectNoListText(t, text)
			expectNoListText(t, "3,"+text)
			expectNoListText(t, text+",3")
		}
	}
}
