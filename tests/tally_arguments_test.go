package tests

import (
	"slices"
	"strings"
	"testing"

	"loop.example/g01240/impl"
)

// tallyCalls holds each function of chapter 3 that takes a word; times are valid ones.
func tallyCalls(w string) map[string][]any {
	all := func(results ...any) []any { return results }
	return map[string][]any{
		"CountsOf":          all(impl.CountsOf(w)),
		"InventoryOf":       all(impl.InventoryOf(w)),
		"WayOfInventory":    all(impl.WayOfInventory(w, 0)),
		"WayOfInventory 40": all(impl.WayOfInventory(w, 40)),
		"LoopOfInventory":   all(impl.LoopOfInventory(w)),
		"LoopWords":         all(impl.LoopWords(w)),
		"IsOwnInventory":    all(impl.IsOwnInventory(w)),
		"HearInventory":     all(impl.HearInventory(w)),
		"IsInventory":       all(impl.IsInventory(w)),
	}
}

// listCalls holds each function of chapter 3 that takes a list; times are valid ones.
func listCalls(numbers []int) map[string][]any {
	all := func(results ...any) []any { return results }
	return map[string][]any{
		"TellList":        all(impl.TellList(numbers)),
		"IsSelfTold":      all(impl.IsSelfTold(numbers)),
		"WayOfTelling":    all(impl.WayOfTelling(numbers, 0)),
		"WayOfTelling 40": all(impl.WayOfTelling(numbers, 40)),
		"LoopOfTelling":   all(impl.LoopOfTelling(numbers)),
	}
}

func checkZero(t *testing.T, name string, argument any, results []any) {
	for _, result := range results {
		if !isZero(result) {
			t.Errorf("%s of %v: %v", name, argument, results)
		}
	}
}

func TestTextsThatAreNoWordsHaveNoInventory(t *testing.T) {
	for _, text := range noWords() {
		for name, results := range tallyCalls(text) {
			checkZero(t, name, text, results)
		}
	}
}

func TestFailedCallsOfChapter3GiveZero(t *testing.T) {
	for _, w := range tallyWords() {
		for name, results := range tallyCalls(w) {
			if !results[len(results)-1].(bool) {
				checkZero(t, name, w, results)
			}
		}
	}
}

func TestListsThatAreNotToldGiveZero(t *testing.T) {
	lists := [][]int{
		nil, {}, {-1}, {2}, {0, 3}, {3, 0}, {-1, 1}, {0, 0, -1}, {4, 0, 0}, {0, 4, 0}, {0, 0, 4}, {10, 0, 0, 0, 0, 0, 0, 0, 0},
		{0, 0, 0, 0, 0, 0, 0, 0, 10}, {0, 0, 0, 0, 0, 0, 0, 0, -1}, make([]int, 10), {6, 2, 1, 0, 0, 0, 1, 0, 0, 0}, make([]int, 11),
		make([]int, 1000), {greatest}, {least}, {1, 256}, {1, 257}, {0, 1 << 32}, {0, 1<<32 + 1}, {-255, 1}, {2, 0, 2, least},
	}
	for _, numbers := range lists {
		for name, results := range listCalls(numbers) {
			checkZero(t, name, numbers, results)
		}
	}
	for n := 1; n <= 9; n++ {
		for place := range n {
			for _, number := range append(extremeNumbers, n-1, n, n+1) {
				numbers := make([]int, n)
				numbers[place] = number
				for name, results := range listCalls(numbers) {
					if ok := results[len(results)-1].(bool); ok != (0 <= number && number <= n) {
						t.Errorf("%s of %v: %v", name, numbers, results)
					} else if !ok {
						checkZero(t, name, numbers, results)
					}
				}
			}
		}
	}
}

func TestNumbersOfChapter3AreBounded(t *testing.T) {
	for _, number := range append(extremeNumbers, 3, 4, 5, 6, 7, 8, 39, 40, 41) {
		isTimes := 0 <= number && number <= 40
		for _, w := range []string{"22", "1"} {
			if way, ok := impl.WayOfInventory(w, number); ok != isTimes || ok && len(way) != number+1 || !ok && len(way) != 0 {
				t.Errorf("WayOfInventory of %s, %d: %v, %v", w, number, way, ok)
			}
		}
		if way, ok := impl.WayOfTelling([]int{0, 1, 2}, number); ok != isTimes || ok && len(way) != number+1 || !ok && len(way) != 0 {
			t.Errorf("WayOfTelling, %d: %v, %v", number, way, ok)
		}
		if words, ok := impl.AllOwn(number); ok != (1 <= number && number <= 6) || !ok && len(words) != 0 {
			t.Errorf("AllOwn of %d: %v, %v", number, words, ok)
		}
		isLength := 1 <= number && number <= 9
		if lists, ok := impl.AllSelfTold(number); ok != isLength || !ok && len(lists) != 0 {
			t.Errorf("AllSelfTold of %d: %v, %v", number, lists, ok)
		}
		if got := count(impl.CountSelfTold(number)); got.ok != isLength || !isLength && got.number != 0 {
			t.Errorf("CountSelfTold of %d: %v", number, got)
		}
	}
}

func TestTimesAreCheckedBesideTheWord(t *testing.T) {
	for _, times := range []int{-1, 41, greatest, least} {
		for _, w := range append(noWords(), strings.Repeat("1", 10), "123456789") {
			if got := list(impl.WayOfInventory(w, times)); got != (listed{}) {
				t.Errorf("WayOfInventory of %q, %d: %v", w, times, got)
			}
		}
		for _, numbers := range [][]int{nil, {-1}, {2}, make([]int, 10)} {
			if way, ok := impl.WayOfTelling(numbers, times); ok || len(way) != 0 {
				t.Errorf("WayOfTelling of %v, %d: %v, %v", numbers, times, way, ok)
			}
		}
	}
}

func TestListsAreLeftAlone(t *testing.T) {
	for _, text := range append(toldLists()[:400], "521001000", "000000000", "999999999", "5", "019", "99") {
		room := append(numbersOf(text), 1, 0, 77)
		before := slices.Clone(room)
		for name, results := range listCalls(room[:len(text)]) {
			if !slices.Equal(room, before) {
				t.Fatalf("%s of %s changed the list or the room behind it: %v", name, text, room)
			}
			if want := listCalls(slices.Clone(before[:len(text)]))[name]; !sameResults(results, want) {
				t.Errorf("%s of %s depends on the room behind the list: %v, want %v", name, text, results, want)
			}
		}
	}
}

func sameResults(results []any, others []any) bool {
	return slices.EqualFunc(results, others, func(a any, b any) bool {
		if lists, ok := a.([][]int); ok {
			return slices.EqualFunc(lists, b.([][]int), slices.Equal)
		}
		if numbers, ok := a.([]int); ok {
			return slices.Equal(numbers, b.([]int))
		}
		return a == b
	})
}

func TestResultsOfChapter3AreNew(t *testing.T) {
	calls := map[string]func() []any{
		"CountsOf":       func() []any { return asAny(impl.CountsOf("1112")) },
		"WayOfInventory": func() []any { return asAny(impl.WayOfInventory("1112", 5)) },
		"LoopWords":      func() []any { return asAny(impl.LoopWords("111116")) },
		"AllOwn":         func() []any { return asAny(impl.AllOwn(5)) },
		"HearInventory":  func() []any { return asAny(impl.HearInventory("3112")) },
		"TellList":       func() []any { return asAny(impl.TellList([]int{0, 0, 0})) },
	}
	for name, call := range calls {
		if first := call(); len(first) == 0 || !slices.Equal(first, call()) {
			t.Errorf("%s told something else the second time", name)
		}
	}
}

func TestListsOfResultsShareNoMemory(t *testing.T) {
	argument := []int{2, 0, 1}
	calls := map[string]func() [][]int{
		"AllSelfTold":  func() [][]int { lists, _ := impl.AllSelfTold(4); return lists },
		"WayOfTelling": func() [][]int { way, _ := impl.WayOfTelling(argument, 8); return way },
		"TellList":     func() [][]int { numbers, _ := impl.TellList(argument); return [][]int{numbers} },
	}
	checkNoneShared(t, argument, calls)
}

// checkNoneShared overwrites each list with all its room: the other lists and the argument have to stay.
func checkNoneShared(t *testing.T, argument []int, calls map[string]func() [][]int) {
	t.Helper()
	before := slices.Clone(argument)
	for name, call := range calls {
		for at := range call() {
			lists, want := call(), call()
			want[at] = slices.Repeat([]int{8}, len(want[at]))
			for place := range lists[at][:cap(lists[at])] {
				lists[at][:cap(lists[at])][place] = 8
			}
			if !slices.EqualFunc(lists, want, slices.Equal) {
				t.Errorf("%s: list %d shares memory with another: %v, want %v", name, at, lists, want)
			}
			if !slices.Equal(argument, before) {
				t.Fatalf("%s: list %d shares memory with the argument", name, at)
			}
		}
	}
}
