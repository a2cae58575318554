package tests

import (
	"fmt"
	"slices"
	"testing"

	"loop.example/g01104/impl"
)

// plainSign names the parity of the pairs that stand in the wrong order.
func plainSign(list []int) string {
	pairs := 0
	for i := range list {
		for j := range i {
			if list[j] > list[i] {
				pairs++
			}
		}
	}
	return []string{"even", "odd"}[pairs%2]
}

// expectShown looks whether show, rank and sign tell a permutation and leave it as it is.
func expectShown(t *testing.T, list []int, rank int) {
	t.Helper()
	expectLine(t, list, "show", list, plainListText(list))
	expectLine(t, list, "rank", list, fmt.Sprint(rank))
	expectLine(t, list, "sign", list, plainSign(list))
}

// expectStay looks whether a line is refused.
func expectStay(t *testing.T, list []int, lines ...string) {
	t.Helper()
	for _, line := range lines {
		expectLine(t, list, line, list, "no")
	}
}

// indexOfList returns the place of a list, which is there.
func indexOfList(lists [][]int, list []int) int {
	return slices.IndexFunc(lists, func(other []int) bool { return slices.Equal(other, list) })
}

func TestTakeLines(t *testing.T) {
	now := []int{2, 0, 1}
	for n := range 7 {
		for rank, list := range sortedOrders(n) {
			expectLine(t, now, "take "+plainListText(list), list, "ok")
			expectShown(t, list, rank)
		}
	}
	expectLine(t, now, "take -", nil, "ok")
	expectLine(t, now, "take 0", []int{0}, "ok")
	expectLine(t, now, "take 2,0,1", now, "ok")
	expectLine(t, nil, "take 1,0", []int{1, 0}, "ok")
	expectLine(t, now, "take 0,1,2,3,4,5,6,7,8,9,10,11", upTo(12), "ok")
	expectLine(t, now, "take 11,10,9,8,7,6,5,4,3,2,1,0", downFrom(12), "ok")
	expectShown(t, upTo(12), 0)
	expectShown(t, downFrom(12), 479001599)
	expectStay(t, now, "take 0,1,2,3,4,5,6,7,8,9,10,11,12", "take 12,11,10,9,8,7,6,5,4,3,2,1,0", "take 0,1,2,3,4,5,6,7,8,9,10,12", "take 1", "take 0,0", "take 1,2", "take 0,2", "take 0,1,1", "take 3,2,1", "take 999999", "take "+textOfRepeated("0", 12), "take "+textOfRepeated("0", 1100))
}

func TestNextLines(t *testing.T) {
	for n := range 7 {
		all := sortedOrders(n)
		for rank, list := range all[:len(all)-1] {
			expectLine(t, list, "next", all[rank+1], "ok")
		}
		expectStay(t, downFrom(n), "next")
	}
	expectLine(t, upTo(12), "next", []int{0, 1, 2, 3, 4, 5, 6, 7, 8, 9, 11, 10}, "ok")
	expectStay(t, downFrom(12), "next")
	expectReplies(t, []int{2, 1, 0}, "next", "ok", "show", "0,2,1", "rank", "1", "sign", "odd", "next", "ok", "show", "1,0,2", "rank", "2", "sign", "odd", "next", "ok", "show", "1,2,0", "rank", "3", "sign", "even", "next", "ok", "show", "2,0,1", "rank", "4", "sign", "even",
		"next", "ok", "show", "2,1,0", "rank", "5", "sign", "odd", "next", "no", "show", "2,1,0", "rank", "5", "sign", "odd")
	expectReplies(t, nil, "take -", "ok", "next", "no", "show", "-", "rank", "0", "sign", "even")
	expectReplies(t, []int{0}, "take 0", "ok", "next", "no", "show", "0", "rank", "0", "sign", "even")
}

func TestTrotLines(t *testing.T) {
	for n := range 7 {
		list := plainTrotter(n)
		all := sortedOrders(n)
		for i, now := range list[:len(list)-1] {
			less := 0
			for now[less] == list[i+1][less] {
				less++
			}
			expectLine(t, now, "trot", list[i+1], fmt.Sprint(less))
			expectShown(t, list[i+1], indexOfList(all, list[i+1]))
		}
		expectStay(t, list[len(list)-1], "trot")
	}
	expectReplies(t, []int{1, 0, 2}, "trot", "1", "show", "0,2,1", "trot", "0", "show", "2,0,1", "rank", "4", "sign", "even", "trot", "1", "show", "2,1,0", "trot", "0", "show", "1,2,0", "trot", "1", "show", "1,0,2", "rank", "2", "sign", "odd", "trot", "no", "show", "1,0,2", "rank", "2", "sign", "odd", "next", "ok", "swap 1 2", "ok")
	expectReplies(t, nil, "take -", "ok", "trot", "no", "show", "-", "rank", "0", "sign", "even")
	expectReplies(t, []int{0}, "take 0", "ok", "trot", "no", "show", "0", "rank", "0", "sign", "even")
}

func TestMoveLines(t *testing.T) {
	now := []int{3, 0, 4, 1, 2}
	expectLine(t, now, "swap 0 1", []int{0, 3, 4, 1, 2}, "ok")
	expectLine(t, now, "swap 0 4", []int{2, 0, 4, 1, 3}, "ok")
	expectLine(t, now, "swap 2 3", []int{3, 0, 1, 4, 2}, "ok")
	expectLine(t, now, "swap 1 3", []int{3, 1, 4, 0, 2}, "ok")
	expectLine(t, now, "reverse 2", []int{0, 3, 4, 1, 2}, "ok")
	expectLine(t, now, "reverse 3", []int{4, 0, 3, 1, 2}, "ok")
	expectLine(t, now, "reverse 5", []int{2, 1, 4, 0, 3}, "ok")
	expectLine(t, now, "rotate 2", []int{0, 3, 4, 1, 2}, "ok")
	expectLine(t, now, "rotate 3", []int{0, 4, 3, 1, 2}, "ok")
	expectLine(t, now, "rotate 5", []int{0, 4, 1, 2, 3}, "ok")
	expectStay(t, now, "swap 0 0", "swap 1 1", "swap 4 4", "swap 1 0", "swap 4 0", "swap 0 5", "swap 4 5", "swap 5 6", "swap 0 999999", "swap 999999 999999", "reverse 0", "reverse 1", "reverse 6", "reverse 999999", "rotate 0", "rotate 1", "rotate 6", "rotate 999999")
	expectStay(t, nil, "swap 0 0", "swap 0 1", "reverse 0", "reverse 1", "reverse 2", "rotate 0", "rotate 1", "rotate 2")
	expectStay(t, []int{0}, "swap 0 0", "swap 0 1", "reverse 0", "reverse 1", "reverse 2", "rotate 0", "rotate 1", "rotate 2")
	expectLine(t, upTo(12), "reverse 12", downFrom(12), "ok")
	expectLine(t, downFrom(12), "rotate 12", append(downFrom(11), 11), "ok")
	expectStay(t, upTo(12), "reverse 13", "rotate 13", "swap 11 12")
}

// TestAllMoveLines holds each move line against the move, and shows what is behind it.
func TestAllMoveLines(t *testing.T) {
	for n := range 6 {
		all := sortedOrders(n)
		for rank, now := range all {
			for _, m := range movesFor(n) {
				line := fmt.Sprint([]string{"swap ", "reverse ", "rotate "}[m.Kind], m.I)
				if m.Kind == impl.MoveSwap {
					line += fmt.Sprint(" ", m.J)
				}
				after := plainMove(now, m)
				expectLine(t, now, line, after, "ok")
				expectShown(t, after, indexOfList(all, after))
			}
			expectShown(t, now, rank)
		}
	}
}

func TestShownBehindLines(t *testing.T) {
	expectReplies(t, []int{2, 3, 1, 0},
		"show", "0,1,2", "rank", "0", "sign", "even", "take 1,0,3,2", "ok", "show", "1,0,3,2", "rank", "7", "sign", "even", "swap 0 3", "ok", "show", "2,0,3,1", "rank", "13", "sign", "odd", "reverse 3", "ok", "show", "3,0,2,1", "rank", "19", "sign", "even",
		"rotate 4", "ok", "show", "0,2,1,3", "rank", "2", "sign", "odd", "reverse 2", "ok", "reverse 2", "ok", "show", "0,2,1,3", "rotate 2", "ok", "rotate 2", "ok", "swap 1 2", "ok", "swap 1 2", "ok", "rank", "2", "reverse 4", "ok", "show", "3,1,2,0", "swap 0 2", "ok", "rank", "15", "swap 1 2", "ok", "sign", "odd", "swap 2 3", "ok", "swap 2 3", "ok",
		"rank", "17")
}
