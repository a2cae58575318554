package tests

import (
	"fmt"
	"slices"
	"strings"
	"testing"

	"loop.example/g01104/impl"
)

var badTexts = []string{
	"", "6", "7", "9", "/", ":", "-", "-1", "+1", " ", "0 ", " 0", "0 1", "0,1", "01\n", "\x00", "0\x000", "a", "0a", "O", "[0,1]", "06", "60", "0.1", "0x1", "1e1", "1_1",
	"\xff", "0\xff", "\xc0\xb0", "\xe2\x88", "é", "٠", "०", "0०", "０", "𝟎", "\ufeff0", "\ufffd", "\U0010ffff", "\u0130", "\u0131",
	strings.Repeat("0", 25), strings.Repeat("5", 25), strings.Repeat("0", 24) + " ", strings.Repeat("0", 23) + "6", "6" + strings.Repeat("0", 23), strings.Repeat("٠", 12), strings.Repeat("𝟎", 24),
	strings.Repeat("1", 5000), strings.Repeat("\x80", 24),
}

// plainText puts the numbers of the letters side by side.
func plainText(w []int) string { return strings.Trim(strings.ReplaceAll(fmt.Sprint(w), " ", ""), "[]") }

func expectTextOf(t *testing.T, w []int, want string) {
	t.Helper()
	text, ok := impl.WordText(w)
	expectText(t, fmt.Sprint("WordText ", w), text, ok, want)
	parsed, ok := impl.ParseWord(want)
	expectList(t, fmt.Sprintf("ParseWord %q", want), parsed, ok, w)
}

func expectNoWordOf(t *testing.T, text string) {
	t.Helper()
	w, ok := impl.ParseWord(text)
	expectNoList(t, fmt.Sprintf("ParseWord %q", text), w, ok)
}

func TestTexts(t *testing.T) {
	for _, w := range someWords() {
		expectTextOf(t, w, plainText(w))
	}
	for letter, text := range []string{"0", "1", "2", "3", "4", "5"} {
		expectTextOf(t, []int{letter}, text)
	}
	expectTextOf(t, []int{0, 1, 2, 3, 4, 5}, "012345")
	expectTextOf(t, slices.Repeat(downFrom(6), 4), "543210543210543210543210")
}

func TestAnyShortTexts(t *testing.T) {
	for character := range 256 {
		text := string([]byte{byte(character)})
		if isDigit := '0' <= character && character <= '5'; isDigit {
			expectTextOf(t, []int{character - '0'}, text)
			expectTextOf(t, []int{3, character - '0'}, "3"+text)
		} else {
			expectNoWordOf(t, text)
			expectNoWordOf(t, "3"+text)
			expectNoWordOf(t, text+"3")
		}
	}
	for character := rune(128); character <= 0x10ffff; character++ {
		// Other texts with such a character are among badTexts.
		if w, ok := impl.ParseWord(string(character)); ok || len(w) > 0 {
			t.Fatalf("ParseWord %q: %v, %v", character, w, ok)
		}
	}
}

func TestNoTexts(t *testing.T) {
	for _, text := range badTexts {
		expectNoWordOf(t, text)
	}
	for _, w := range noWords {
		text, ok := impl.WordText(w)
		expectNoText(t, fmt.Sprint("WordText ", w), text, ok)
	}
}
