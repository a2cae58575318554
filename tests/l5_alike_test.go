package tests

import (
	"fmt"
	"math"
	"slices"
	"testing"

	"loop.example/g01104/impl"
)

// variationsOf changes one number of a list, or its length by one.
func variationsOf(list []int) [][]int {
	var varied [][]int
	for i, x := range list {
		for _, y := range []int{x - 2, x - 1, x + 1, x + 2, 0, math.MinInt, math.MaxInt} {
			if y != x {
				changed := slices.Clone(list)
				changed[i] = y
				varied = append(varied, changed)
			}
		}
		varied = append(varied, slices.Delete(slices.Clone(list), i, i+1))
	}
	for _, y := range []int{-1, 0, 1, 2, len(list), math.MaxInt} {
		varied = append(varied, append(slices.Clone(list), y))
	}
	return varied
}

// turnsOf changes one Up, or how many there are by one.
func turnsOf(up []bool) [][]bool {
	varied := [][]bool{append(slices.Clone(up), true), append(slices.Clone(up), false)}
	for i := range up {
		turned := slices.Clone(up)
		turned[i] = !turned[i]
		varied = append(varied, turned, slices.Delete(slices.Clone(up), i, i+1))
	}
	return varied
}

// focusesLike changes f in one place.
func focusesLike(f impl.Focus) []impl.Focus {
	var alike []impl.Focus
	for _, bases := range variationsOf(f.Bases) {
		alike = append(alike, impl.Focus{Bases: bases, Digits: f.Digits, Up: f.Up, Pointers: f.Pointers})
	}
	for _, digits := range variationsOf(f.Digits) {
		alike = append(alike, impl.Focus{Bases: f.Bases, Digits: digits, Up: f.Up, Pointers: f.Pointers})
	}
	for _, up := range turnsOf(f.Up) {
		alike = append(alike, impl.Focus{Bases: f.Bases, Digits: f.Digits, Up: up, Pointers: f.Pointers})
	}
	for _, pointers := range variationsOf(f.Pointers) {
		alike = append(alike, impl.Focus{Bases: f.Bases, Digits: f.Digits, Up: f.Up, Pointers: pointers})
	}
	return alike
}

// focusTable has the states for the bases that were asked for, as lists made from their indices.
type focusTable map[string][]impl.Focus

func plainBases(bases []int) bool {
	product := 1
	for _, base := range bases {
		if base < 2 || base > 12 || product > 5040 {
			return false
		}
		product *= base
	}
	return product <= 5040
}

// rank is -1 if f is no valid state.
func (table focusTable) rank(f impl.Focus) int {
	if !plainBases(f.Bases) {
		return -1
	}
	key := fmt.Sprint(f.Bases)
	if _, ok := table[key]; !ok {
		table[key] = plainFocuses(f.Bases)
	}
	return slices.IndexFunc(table[key], func(g impl.Focus) bool { return sameFocus(f, g) })
}

func TestFocusesLikeValidOnes(t *testing.T) {
	table := focusTable{}
	for _, bases := range [][]int{nil, {2}, {3}, {4}, {12}, {2, 2}, {2, 3}, {3, 2}, {3, 3}, {2, 2, 2}, {3, 2, 4}, {2, 3, 4}, {2, 2, 2, 3}} {
		for _, f := range plainFocuses(bases) {
			for _, alike := range focusesLike(f) {
				if r := table.rank(alike); r < 0 {
					expectInvalidFocus(t, alike)
				} else {
					checkFocus(t, table[fmt.Sprint(alike.Bases)], r)
				}
			}
		}
	}
}

func TestFocusesLikeThoseOfTheLargestProduct(t *testing.T) {
	table := focusTable{}
	for _, bases := range [][]int{{2, 3, 4, 5, 6, 7}, {7, 6, 5, 4, 3, 2}, repeated(2, 12)} {
		all := plainFocuses(bases)
		for r := 0; r < len(all); r += 419 {
			for _, alike := range focusesLike(all[r]) {
				if plainBases(alike.Bases) != impl.IsFocus(startLike(alike.Bases)) {
					t.Errorf("IsFocus %v", startLike(alike.Bases))
				}
				if table.rank(alike) < 0 {
					expectInvalidFocus(t, alike)
				}
			}
		}
	}
}

// TestFocusesOfAllSmallNumbers tries each list of pointers, of digits and of Up for few bases.
func TestFocusesOfAllSmallNumbers(t *testing.T) {
	table := focusTable{}
	for _, bases := range [][]int{nil, {2}, {3}, {2, 2}, {2, 3}, {3, 2}} {
		m := len(bases)
		found := 0
		forChoices(upTo(4), m, nil, func(digits []int) {
			forChoices([]bool{false, true}, m, nil, func(up []bool) {
				forChoices(upTo(4), m+1, nil, func(pointers []int) {
					f := impl.Focus{Bases: bases, Digits: digits, Up: up, Pointers: pointers}
					if impl.IsFocus(f) != (table.rank(f) >= 0) {
						t.Errorf("IsFocus %v", f)
					}
					if impl.IsFocus(f) {
						found++
					}
				})
			})
		})
		expectNumber(t, fmt.Sprint("the states for ", bases), found, true, len(mirroredDigits(bases)))
	}
}

// swappersLike changes s in one place.
func swappersLike(s impl.Swapper) []impl.Swapper {
	var alike []impl.Swapper
	for _, f := range focusesLike(s.Focus) {
		alike = append(alike, impl.Swapper{Focus: f, Items: s.Items, Where: s.Where})
	}
	for _, items := range variationsOf(s.Items) {
		alike = append(alike, impl.Swapper{Focus: s.Focus, Items: items, Where: s.Where})
	}
	for _, where := range variationsOf(s.Where) {
		alike = append(alike, impl.Swapper{Focus: s.Focus, Items: s.Items, Where: where})
	}
	return alike
}

// TestSwappersLikeValidOnes: no swapper becomes another one by a change in one place.
func TestSwappersLikeValidOnes(t *testing.T) {
	for n := 1; n <= 7; n++ {
		all := plainSwappers(n)
		for r := 0; r < len(all); r += len(all)/24 + 1 {
			for _, alike := range swappersLike(all[r]) {
				expectInvalidSwapper(t, alike)
			}
		}
	}
}

func TestSwappersWithAllItemsForTwo(t *testing.T) {
	all := plainSwappers(2)
	for _, f := range plainFocuses([]int{2}) {
		forChoices([]int{-1, 0, 1, 2}, 4, nil, func(list []int) {
			s := impl.Swapper{Focus: f, Items: list[:2], Where: list[2:]}
			want := slices.ContainsFunc(all, func(other impl.Swapper) bool { return sameSwapper(s, other) })
			if impl.IsSwapper(s) != want {
				t.Errorf("IsSwapper %v", s)
			}
		})
	}
}
