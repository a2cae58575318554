package tests

import (
	"fmt"
	"math/rand/v2"
	"slices"
	"strings"
	"testing"

	"loop.example/g01104/impl"
)

// noScripts are too long, have too many lines, or end with a line that is not ended.
var noScripts = []string{
	"x", "show", " ", "-", "\r", "\x00", "show\nshow", "\nshow", "show\n ", "show\n\nshow", "\n\nx", "next\nnext\nrank", "show\r", "show\n\r", strings.Repeat("\n", 51), strings.Repeat("show\n", 51), strings.Repeat("\n", 50) + "x", strings.Repeat("\n", 3000), strings.Repeat("x\n", 51), strings.Repeat("x\n", 1500),
	strings.Repeat("x", 2999), strings.Repeat("x", 3000), strings.Repeat("x", 3000) + "\n", strings.Repeat("x", 3001), "show\n" + strings.Repeat("x", 2995) + "\n", strings.Repeat(strings.Repeat("x", 60)+"\n", 50), strings.Repeat("x", 100000) + "\n", strings.Repeat("\n", 100000),
}

// scriptOf ends each line with a newline.
func scriptOf(lines []string) string {
	script := ""
	for _, line := range lines {
		script += line + "\n"
	}
	return script
}

func expectScript(t *testing.T, script string, replies []string, after []int) {
	t.Helper()
	if got, ok := impl.RunLines(script); !ok || !slices.Equal(got, replies) {
		t.Errorf("RunLines %q: %q, %v instead of %q, true", script, got, ok, replies)
	}
	list, ok := impl.ListAfter(script)
	expectList(t, fmt.Sprintf("ListAfter %q", script), list, ok, after)
	var failed []int
	for i, reply := range replies {
		if reply == "no" || reply == "what" {
			failed = append(failed, i+1)
		}
	}
	numbers, ok := impl.FailedLines(script)
	expectList(t, fmt.Sprintf("FailedLines %q", script), numbers, ok, failed)
}

// expectReplies runs lines as a script, and one by one; each line has its reply behind it.
func expectReplies(t *testing.T, after []int, linesAndReplies ...string) {
	t.Helper()
	var lines, replies []string
	now := []int{0, 1, 2}
	for pair := range slices.Chunk(linesAndReplies, 2) {
		lines, replies = append(lines, pair[0]), append(replies, pair[1])
		next, reply, ok := impl.StepLine(now, pair[0])
		if !ok || reply != pair[1] {
			t.Errorf("StepLine %v %q: %q, %v instead of %q, true", now, pair[0], reply, ok, pair[1])
		}
		now = next
	}
	if !slices.Equal(now, after) {
		t.Errorf("%v instead of %v behind the lines %q", now, after, lines)
	}
	expectScript(t, scriptOf(lines), replies, after)
}

func expectNoScript(t *testing.T, text string) {
	t.Helper()
	if replies, ok := impl.RunLines(text); ok || len(replies) > 0 {
		t.Errorf("RunLines %q: %q, %v", text, replies, ok)
	}
	list, ok := impl.ListAfter(text)
	expectNoList(t, fmt.Sprintf("ListAfter %q", text), list, ok)
	numbers, ok := impl.FailedLines(text)
	expectNoList(t, fmt.Sprintf("FailedLines %q", text), numbers, ok)
}

func TestShortScripts(t *testing.T) {
	first := []int{0, 1, 2}
	expectScript(t, "", nil, first)
	expectScript(t, "\n", []string{"what"}, first)
	expectScript(t, "\n\n", []string{"what", "what"}, first)
	expectScript(t, "show\n", []string{"0,1,2"}, first)
	expectScript(t, "fly\n", []string{"what"}, first)
	expectScript(t, "swap 1 1\n", []string{"no"}, first)
	expectScript(t, "next\n", []string{"ok"}, []int{0, 2, 1})
	expectScript(t, "\nnext\n", []string{"what", "ok"}, []int{0, 2, 1})
	expectScript(t, "next\n\n", []string{"ok", "what"}, []int{0, 2, 1})
	expectScript(t, "\nnext\n\n", []string{"what", "ok", "what"}, []int{0, 2, 1})
	expectScript(t, "next\n\n\nnext\n", []string{"ok", "what", "what", "ok"}, []int{1, 0, 2})
	expectScript(t, "show\r\nnext\r\n", []string{"what", "what"}, first)
	expectScript(t, "show\x00\n", []string{"what"}, first)
	expectScript(t, "take -\n", []string{"ok"}, nil)
	expectScript(t, "take -\nshow\n", []string{"ok", "-"}, nil)
	expectScript(t, "trot\nshow\nrank\nsign\ngray 3 4\nfly\n", []string{"1", "0,2,1", "1", "odd", "6", "what"}, []int{0, 2, 1})
	expectScript(t, "rank\nfly\nswap 1 1\n", []string{"0", "what", "no"}, first)
}

func TestFailedLinesBetweenOthers(t *testing.T) {
	expectReplies(t, []int{1, 2, 0},
		"next", "ok", "next 1", "what", "show", "0,2,1", "swap 0 3", "no", "show", "0,2,1", "take 0,0", "no", "take 0,0,", "what", "show", "0,2,1", "rotate 3", "ok", "reverse 4", "no", "show", "2,1,0", "next", "no", "rank", "5",
		"Next", "what", "trot", "0", "show", "1,2,0", "", "what", "trot", "1", "take 1,0,2 ", "what", "trot", "no", "next", "ok", "show", "1,2,0", "swap 0 1 2", "what", "sign", "even", "gray 0 0", "no", "gray 3 4", "6", "show", "1,2,0")
	expectReplies(t, []int{3, 0, 2, 1},
		"fly", "what", "take 0,1,2,3", "ok", "swap 3 0", "no", "swap 0 3", "ok", "show", "3,1,2,0", "trot", "2", "show", "3,1,0,2", "rotate 1", "no", "reverse 5", "no", "take 3,0,1,2", "ok", "rank", "18", "next", "ok", "sign", "even")
	expectReplies(t, []int{1, 0},
		"mixed 2,3 3", "1,2", "choose 4 2 3", "1,2", "revolve 4 2 3", "2,3", "halves 4 2", "2 4", "halves 4 5", "no", "growth 3 4", "0,1,2", "balanced 2 1", "1,1,0,0", "factors 1,0,1,0,0", "1|0,1|0|0", "factors 1,,0", "what",
		"take 1,0", "ok", "bruijn 2 2", "0,0,1,1", "bruijn 2 2 2", "what", "pairs 3", "0,1,2", "pairs 2", "no", "super 2", "0,1,0", "ungray 3 6", "4", "show", "1,0")
}

func TestScriptLimits(t *testing.T) {
	for _, count := range []int{49, 50} {
		expectScript(t, strings.Repeat("\n", count), slices.Repeat([]string{"what"}, count), []int{0, 1, 2})
		expectScript(t, strings.Repeat("rank\n", count), slices.Repeat([]string{"0"}, count), []int{0, 1, 2})
	}
	expectScript(t, strings.Repeat("rotate 3\n", 50), slices.Repeat([]string{"ok"}, 50), []int{2, 0, 1})
	expectNoScript(t, strings.Repeat("rotate 3\n", 51))
	long := strings.Repeat("x", 2999)
	expectScript(t, long+"\n", []string{"what"}, []int{0, 1, 2})
	expectNoScript(t, long+"x\n")
	expectScript(t, long[:2994]+"\nnext\n", []string{"what", "ok"}, []int{0, 2, 1})
	expectNoScript(t, long[:2995]+"\nnext\n")
	expectScript(t, "next\ntake "+textOfLength(2989)+"\n", []string{"ok", "no"}, []int{0, 2, 1})
	expectNoScript(t, "next\ntake "+textOfLength(2990)+"\n")
	full := slices.Repeat([]string{"what"}, 50)
	expectScript(t, strings.Repeat(long[:59]+"\n", 50), full, []int{0, 1, 2})
	full[0] = "ok"
	expectScript(t, "next\n"+strings.Repeat("\n", 48)+long[:2946]+"\n", full, []int{0, 2, 1})
	expectNoScript(t, "next\n"+strings.Repeat("\n", 48)+long[:2947]+"\n")
}

func TestNoScripts(t *testing.T) {
	for _, text := range noScripts {
		expectNoScript(t, text)
	}
	for _, line := range goodLines {
		expectNoScript(t, line)
		expectNoScript(t, "next\n"+line)
		expectNoScript(t, line+"\n"+line)
	}
}

// randomLine returns a line, and what is behind it.
func randomLine(random *rand.Rand, now []int) (line string, after []int, reply string) {
	if random.IntN(6) == 0 {
		return unknownLines[random.IntN(len(unknownLines))], now, "what"
	}
	row := consoleRows[random.IntN(len(consoleRows))]
	if random.IntN(2) == 0 {
		// Moves are taken more often.
		row = consoleRows[random.IntN(6)]
	}
	list := random.Perm(random.IntN(7))
	if random.IntN(4) == 0 {
		list = randomLetters(random, random.IntN(10), 3)
	}
	var n []int
	for range row.numbers {
		n = append(n, random.IntN(5))
	}
	return row.plainStep(now, list, n)
}

func TestRandomScripts(t *testing.T) {
	random := rand.New(rand.NewPCG(10, 2))
	for range 1000 {
		now := []int{0, 1, 2}
		var lines, replies []string
		for range random.IntN(51) {
			line, after, reply := randomLine(random, now)
			expectLine(t, now, line, after, reply)
			lines, replies = append(lines, line), append(replies, reply)
			now = after
		}
		expectScript(t, scriptOf(lines), replies, now)
	}
}
