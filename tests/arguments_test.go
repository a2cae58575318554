package tests

import (
	"fmt"
	"math"
	"reflect"
	"slices"
	"testing"
)

// call is a function that takes some numbers and some lists; its last result is a bool.
type call struct {
	name    string
	numbers int
	lists   int
	run     func(numbers []int, lists [][]int) []any
}

var hostileNumbers = []int{
	math.MinInt, math.MinInt + 1, -1001, -1, 0, 1, 2, 3, 5, 6, 7, 11, 12, 13, 63, 64, 65, 924, 1000000, math.MaxInt - 1, math.MaxInt,
}

var hostileLists = [][]int{
	nil, {}, {0}, {1}, {-1}, {2}, {12}, {13}, {math.MinInt}, {math.MaxInt},
	{0, 1, 3, 2}, {6, 2, 3, 1, 0, 4, 5, 7}, {0, 1}, {1, 0}, {0, 0}, {2, 3}, {3, 2}, {1, 2}, {math.MaxInt, math.MinInt}, {math.MaxInt, math.MaxInt}, {math.MinInt, math.MinInt},
	{0, 1, 2}, {2, 0, 1}, {2, 1, 0}, {0, 2, 1}, {0, 1, 1}, {0, 0, 0}, {1, 3, 5}, {9, 10, 11}, {0, 1, math.MaxInt},
	upTo(12), downFrom(12), upTo(13), downFrom(13), repeated(0, 12), repeated(0, 13), repeated(2, 12), repeated(2, 13),
	repeated(10, 6), repeated(10, 7), repeated(12, 12), upTo(1100), upTo(1101), repeated(2, 5000), repeated(math.MaxInt, 64),
}

// tableCall is a function that takes a list of lists, too.
type tableCall struct {
	name    string
	numbers int
	lists   int
	run     func(numbers []int, lists [][]int, table [][]int) []any
}

var hostileTables = [][][]int{
	nil, {}, {nil}, {nil, {}}, {{0}}, {{1}}, {{0}, {1}}, {{1}, {0}}, {{0}, {0}}, {{0}, {2}, {1}}, {{2}, {1}, {0}}, {{0}, {1, 0}, nil},
	{{0, 0}, {0, 1}, {1, 1}, {1, 0}}, {{1, 0}, {0, 1}}, {{0, 1}, {0, 2}, {1, 2}}, {{0, 1, 2}, {1, 0, 2}, {1, 2, 0}}, {{-1}}, {{math.MinInt}, {math.MaxInt}},
	{{0, 1}, {math.MaxInt, math.MinInt}}, {upTo(12), downFrom(12)}, {upTo(12), upTo(13)}, {repeated(0, 5000), nil}, make([][]int, 1100), make([][]int, 1101),
	slices.Repeat([][]int{{0}}, 1100), slices.Repeat([][]int{{0, 1}}, 1101), slices.Repeat([][]int{{0}, {1}}, 2000),
}

// guarded returns copies of lists with spare capacity that is filled with x, and the whole memory of each.
func guarded(lists [][]int, x int) (short [][]int, whole [][]int) {
	for _, list := range lists {
		memory := append(slices.Clone(list), repeated(x, 5)...)
		short = append(short, memory[:len(list)])
		whole = append(whole, memory)
	}
	return short, whole
}

func cloneAll(lists [][]int) [][]int {
	var clones [][]int
	for _, list := range lists {
		clones = append(clones, slices.Clone(list))
	}
	return clones
}

// runSafely reports a panic as a failed test.
func runSafely(t *testing.T, c call, numbers []int, lists [][]int) (results []any) {
	defer func() {
		if p := recover(); p != nil {
			t.Errorf("%s %v %v panics: %v", c.name, numbers, lists, p)
		}
	}()
	return c.run(numbers, lists)
}

// listsIn returns all slices of numbers in results.
func listsIn(results []any) [][]int {
	var lists [][]int
	for _, result := range results {
		switch x := result.(type) {
		case []int:
			lists = append(lists, x)
		case [][]int:
			lists = append(lists, x...)
		}
	}
	return lists
}

// spoil writes over all the memory of a list, its spare capacity included.
func spoil(list []int) {
	whole := list[:cap(list)]
	for i := range whole {
		whole[i] = -77
	}
}

func isNothing(result any) bool {
	v := reflect.ValueOf(result)
	return v.IsZero() || v.Kind() == reflect.Slice && v.Len() == 0
}

func checkFailure(t *testing.T, name string, results []any) {
	t.Helper()
	ok := results[len(results)-1].(bool)
	for _, result := range results[:len(results)-1] {
		if !ok && !isNothing(result) {
			t.Errorf("%s fails with the result %v", name, result)
		}
	}
}

// checkMemory spoils one list of the results after the other, and looks whether anything else changes.
func checkMemory(t *testing.T, name string, results []any, arguments [][]int) {
	t.Helper()
	before := cloneAll(arguments)
	lists := listsIn(results)
	want := cloneAll(lists)
	for i, list := range lists {
		if !slices.Equal(list, want[i]) {
			t.Errorf("%s: the list %d of the result shares memory with another one", name, i)
			return
		}
		spoil(list)
	}
	if !reflect.DeepEqual(arguments, before) {
		t.Errorf("%s: the result shares memory with an argument", name)
	}
}

func checkCall(t *testing.T, c call, numbers []int, lists [][]int) {
	name := fmt.Sprint(c.name, " ", numbers, " ", lists)
	short, whole := guarded(lists, 0)
	before := cloneAll(whole)
	results := runSafely(t, c, numbers, short)
	if results == nil {
		return
	}
	if !reflect.DeepEqual(whole, before) {
		t.Errorf("%s: an argument or its spare capacity is changed", name)
	}
	checkFailure(t, name, results)
	other, _ := guarded(lists, 1)
	again := runSafely(t, c, numbers, other)
	if !reflect.DeepEqual(again, results) {
		t.Errorf("%s: %v, and %v with other spare capacity", name, results, again)
	}
	checkMemory(t, name, results, whole)
	if later := runSafely(t, c, numbers, other); !reflect.DeepEqual(later, again) {
		t.Errorf("%s: %v, and later %v", name, again, later)
	}
}

// checkArguments runs a function with all hostile arguments.
func checkArguments(t *testing.T, c call) {
	forChoices(hostileNumbers, c.numbers, nil, func(numbers []int) {
		forChoices(hostileLists, c.lists, nil, func(lists [][]int) {
			checkCall(t, c, numbers, lists)
		})
	})
}

// numbersBeside returns fewer numbers for a long list of lists, which takes much longer to check.
func numbersBeside(table [][]int) []int {
	if len(table) < 1000 {
		return hostileNumbers
	}
	return []int{-1, 0, 1, 2, 12, 13}
}

// checkTable runs a function with a list of lists and all hostile arguments beside it, and looks whether lists are exchanged in the list of lists, or put behind it.
func checkTable(t *testing.T, c tableCall, table [][]int) {
	withTable := call{name: c.name, run: func(numbers []int, lists [][]int) []any {
		memory := append(slices.Clone(lists[c.lists:]), []int{-7}, []int{-8})
		before := cloneAll(memory)
		results := c.run(numbers, lists[:c.lists], memory[:len(table)])
		if !reflect.DeepEqual(memory, before) {
			t.Errorf("%s %v %v: the list of lists or its spare capacity is changed", c.name, numbers, lists)
		}
		return results
	}}
	forChoices(numbersBeside(table), c.numbers, nil, func(numbers []int) {
		forChoices(hostileLists, c.lists, nil, func(lists [][]int) {
			checkCall(t, withTable, numbers, append(lists, table...))
		})
	})
}

// checkTableArguments runs a function with all hostile arguments.
func checkTableArguments(t *testing.T, c tableCall) {
	for _, table := range hostileTables {
		checkTable(t, c, table)
	}
}

// forChoices calls do with each list of count values behind those that are chosen.
func forChoices[T any](values []T, count int, chosen []T, do func([]T)) {
	if count == 0 {
		do(slices.Clone(chosen))
		return
	}
	for _, x := range values {
		forChoices(values, count-1, append(slices.Clone(chosen), x), do)
	}
}

// hasSpareCapacity looks at lists of lists, too.
func hasSpareCapacity(results []any) bool {
	isLonger := func(list []int) bool { return cap(list) > len(list) }
	for _, result := range results {
		if lists, ok := result.([][]int); ok && cap(lists) > len(lists) {
			return true
		}
	}
	return slices.ContainsFunc(listsIn(results), isLonger)
}

// checkResultsEnd looks whether nothing is handed out behind the end of a result.
func checkResultsEnd(t *testing.T, calls []call, someNumbers []int, someLists [][]int) {
	for _, c := range calls {
		forChoices(someNumbers, c.numbers, nil, func(numbers []int) {
			forChoices(someLists, c.lists, nil, func(lists [][]int) {
				if hasSpareCapacity(c.run(numbers, lists)) {
					t.Errorf("%s %v %v has a result with spare capacity", c.name, numbers, lists)
				}
			})
		})
	}
}
