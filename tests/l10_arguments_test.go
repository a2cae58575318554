package tests

import (
	"fmt"
	"slices"
	"strings"
	"testing"

	"loop.example/g01104/impl"
)

func stepCall(line string) call {
	return call{fmt.Sprintf("StepLine %.60q", line), 0, 1, func(_ []int, l [][]int) []any {
		x, reply, ok := impl.StepLine(l[0], line)
		return []any{x, reply, ok}
	}}
}

// textCalls are the functions of chapter 10 that take a text alone; ok stands last in each result.
func textCalls(text string) []call {
	return []call{
		{fmt.Sprintf("ParseList %.60q", text), 0, 0, func(_ []int, _ [][]int) []any { x, ok := impl.ParseList(text); return []any{x, ok} }},
		{fmt.Sprintf("RunLines %.60q", text), 0, 0, func(_ []int, _ [][]int) []any { x, ok := impl.RunLines(text); return []any{x, ok} }},
		{fmt.Sprintf("ListAfter %.60q", text), 0, 0, func(_ []int, _ [][]int) []any { x, ok := impl.ListAfter(text); return []any{x, ok} }},
		{fmt.Sprintf("FailedLines %.60q", text), 0, 0, func(_ []int, _ [][]int) []any { x, ok := impl.FailedLines(text); return []any{x, ok} }},
	}
}

// argumentLines are lines of each kind, and texts that are no lines.
func argumentLines() []string {
	lines := slices.Concat(goodLines, unknownLines, badListTexts, noScripts, []string{"take -", "take 0,1,2,3,4,5,6,7,8,9,10,11", "take 999999", "swap 0 0", "reverse 999999", "pairs 999999", "bruijn 999999 999999"})
	for _, line := range []string{"take ", "factors ", "mixed ", "swap 0 ", "choose 4 2 ", "super "} {
		for _, text := range slices.Concat(badNumbers, badListTexts) {
			lines = append(lines, line+text)
		}
	}
	return lines
}

// argumentTexts are scripts, some of which have many lines or are long, and texts that are none.
func argumentTexts() []string {
	texts := slices.Concat(argumentLines(), textsWithBlanks, []string{scriptOf(goodLines), scriptOf(unknownLines[:50]), scriptOf(slices.Repeat([]string{"bruijn 10 2"}, 50)), scriptOf(slices.Repeat([]string{"pairs 11"}, 50)), scriptOf(slices.Repeat([]string{"next"}, 6)), textOfRepeated("0", 1100), textOfRepeated("999999", 1100)})
	for _, line := range argumentLines() {
		texts = append(texts, line+"\n", "next\n"+line+"\n")
	}
	return texts
}

var listTextCall = call{"ListText", 0, 1, func(_ []int, l [][]int) []any { x, ok := impl.ListText(l[0]); return []any{x, ok} }}

func TestConsoleArguments(t *testing.T) {
	t.Run("ListText", func(t *testing.T) {
		checkArguments(t, listTextCall)
		for _, list := range slices.Concat(noConsoleLists, consoleLists) {
			checkCall(t, listTextCall, nil, [][]int{list})
		}
	})
	t.Run("StepLine", func(t *testing.T) {
		for _, line := range argumentLines() {
			for _, list := range slices.Concat(consolePermutations(), [][]int{{0, 0}, {1}, {-1, 0}, upTo(13)}) {
				checkCall(t, stepCall(line), nil, [][]int{list})
			}
		}
		for _, line := range goodLines {
			checkArguments(t, stepCall(line))
		}
	})
	t.Run("texts", func(t *testing.T) {
		for _, text := range append(argumentTexts(), strings.Repeat("\xff", 5000), strings.Repeat("0,", 1<<20), strings.Repeat("9", 1<<20), strings.Repeat(" ", 1<<20)) {
			for _, c := range textCalls(text) {
				checkCall(t, c, nil, nil)
			}
		}
	})
}

func TestConsoleResultsEnd(t *testing.T) {
	for _, text := range argumentTexts() {
		checkResultsEnd(t, textCalls(text), nil, nil)
		if replies, _ := impl.RunLines(text); cap(replies) > len(replies) {
			t.Errorf("RunLines %q has spare capacity behind its result", text)
		}
	}
	for _, line := range argumentLines() {
		checkResultsEnd(t, []call{stepCall(line)}, nil, consolePermutations())
	}
}

// TestRepliesApart writes over the replies of a script and runs it again.
func TestRepliesApart(t *testing.T) {
	script := scriptOf(goodLines)
	replies, _ := impl.RunLines(script)
	want := slices.Clone(replies)
	for i := range replies {
		replies[i] = "spoiled"
	}
	if again, ok := impl.RunLines(script); !ok || !slices.Equal(again, want) {
		t.Errorf("RunLines %q: %q, %v instead of %q", script, again, ok, want)
	}
}
