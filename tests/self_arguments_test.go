package tests

import (
	"slices"
	"testing"

	"loop.example/g01240/impl"
)

// boundedCall is a function that takes a number, and the bounds of this.
type boundedCall struct {
	name        string
	from, to    int
	call        func(n int) []any
	mayTellZero bool
}

// selfCalls holds each function of chapter 5 that takes one number.
func selfCalls() []boundedCall {
	all := func(results ...any) []any { return results }
	return []boundedCall{
		{"GolombOf", 1, 3000, func(n int) []any { return all(impl.GolombOf(n)) }, false},
		{"GolombList", 1, 3000, func(n int) []any { return all(impl.GolombList(n)) }, false},
		{"GolombTimes", 1, 3000, func(n int) []any { return all(impl.GolombTimes(n)) }, false},
		{"GolombLast", 1, 3000, func(n int) []any { return all(impl.GolombLast(n)) }, false},
		{"GolombSum", 1, 3000, func(n int) []any { return all(impl.GolombSum(n)) }, false},
		{"BackOf", 1, 3000, func(n int) []any { return all(impl.BackOf(n)) }, false},
		{"BackList", 1, 3000, func(n int) []any { return all(impl.BackList(n)) }, false},
		{"BackExcess", 1, 3000, func(n int) []any { return all(impl.BackExcess(n)) }, true},
		{"NestedOf", 0, 3000, func(n int) []any { return all(impl.NestedOf(n)) }, true},
		{"NestedTimes", 0, 1000, func(n int) []any { return all(impl.NestedTimes(n)) }, false},
		{"WildOf", 1, 3000, func(n int) []any { return all(impl.WildOf(n)) }, false},
		{"FigureOf", 1, 1000, func(n int) []any { return all(impl.FigureOf(n)) }, false},
		{"StepOf", 1, 1000, func(n int) []any { return all(impl.StepOf(n)) }, false},
		{"IsFigure", 1, 100000, func(n int) []any { return all(impl.IsFigure(n)) }, true},
		{"HalvedOf", 0, 1000000000, func(n int) []any { return all(impl.HalvedOf(n)) }, true},
		{"HalvedPair", 1, 1000000000, func(n int) []any { return all(impl.HalvedPair(n)) }, false},
	}
}

func TestConstantsOfChapter5(t *testing.T) {
	if impl.MaxSelf != 3000 || impl.MaxFar != 1000000000 {
		t.Errorf("MaxSelf is %d, MaxFar is %d", impl.MaxSelf, impl.MaxFar)
	}
}

func TestNumbersOfChapter5AreBounded(t *testing.T) {
	numbers := append(slices.Clone(extremeNumbers), -3000, -1000, -2, 3, 999, 1000, 1001, 2999, 3000, 3001, 6000, 99999, 100000, 100001,
		999999999, 1000000000, 1000000001, 1<<30, 1<<31, 1<<32+1, 1<<40+5, 1<<62, -1<<31, -1<<32+1)
	checkBounds(t, selfCalls(), numbers)
}

// checkBounds calls with numbers of all kinds, and with those at the bounds of each call.
func checkBounds(t *testing.T, calls []boundedCall, numbers []int) {
	t.Helper()
	for _, c := range calls {
		for _, n := range append(slices.Clone(numbers), c.from-1, c.from, c.from+1, c.to-1, c.to, c.to+1) {
			results := c.call(n)
			want := c.from <= n && n <= c.to
			if ok := results[len(results)-1].(bool); ok != want {
				t.Errorf("%s of %d: %v, want %v", c.name, n, results, want)
			} else if !ok {
				checkZero(t, c.name, n, results)
			} else if !c.mayTellZero && isZero(results[0]) {
				t.Errorf("%s of %d: %v", c.name, n, results)
			}
		}
	}
}

func TestBothNumbersOfAPairAreBounded(t *testing.T) {
	numbers := append(slices.Clone(extremeNumbers), -1000, -999, -2, 3, 998, 999, 1000, 1001, 1002, 1000000000, 1<<32+1)
	for _, a := range numbers {
		for _, b := range numbers {
			got := count(impl.HalvedRank(a, b))
			if valid := 1 <= a && a <= 1000 && 1 <= b && b <= 1000; got.ok && !valid || !got.ok && got.number != 0 {
				t.Errorf("HalvedRank of %d and %d: %v", a, b, got)
			}
		}
	}
	// But for 1 and 0, all of these are numbers n and n + 1 of the sequence, with no great n.
	for _, pair := range [][2]int{{0, 1}, {1, 0}, {1001, 387}, {387, 1001}, {1001, 614}, {614, 1001}, {1597, 987}, {987, 1597}} {
		checkZero(t, "HalvedRank", pair, []any{count(impl.HalvedRank(pair[0], pair[1]))})
	}
}

// TestListsOfChapter5AreNew writes over all the room of a list: no other call tells anything else then.
func TestListsOfChapter5AreNew(t *testing.T) {
	for name, call := range map[string]func(int) ([]int, bool){"GolombList": impl.GolombList, "BackList": impl.BackList} {
		for _, n := range []int{1, 2, 40, 3000} {
			first, _ := call(n)
			want := slices.Clone(first)
			other, _ := call(n)
			clear(first[:cap(first)])
			if again, ok := call(n); !ok || !slices.Equal(again, want) || !slices.Equal(other, want) {
				t.Errorf("%s of %d told something else the second time: %v, %v, %v", name, n, again, other, ok)
			}
		}
	}
}

// TestNumbersAreToldTheSameAgain asks often, as a map that is ranged over has another order each time.
func TestNumbersAreToldTheSameAgain(t *testing.T) {
	for _, c := range selfCalls() {
		want := c.call(c.to)
		for range 20 {
			if again := c.call(c.to); !sameResults(again, want) {
				t.Errorf("%s of %d: %v, and before %v", c.name, c.to, again, want)
			}
		}
	}
}
