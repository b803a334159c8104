package tests

import (
	"math/bits"
	"slices"
	"testing"

	"loop.example/g01240/impl"
)

// numberOf is the answer of a call that succeeds, which is asked about further. No number that is told is less than 0, so -1 stands for a failure.
func numberOf(number int, ok bool) int {
	if !ok {
		return -1
	}
	return number
}

func TestGolombsNumbersTellHowOftenNumbersAreThere(t *testing.T) {
	told, ok := impl.GolombList(3000)
	if !ok || len(told) != 3000 || !slices.IsSorted(told) || told[0] != 1 {
		t.Fatalf("GolombList: %v, %v", told, ok)
	}
	places := map[int][]int{}
	for at, value := range told {
		places[value] = append(places[value], at+1)
	}
	// Of the last value some places are behind those that are told.
	for value := 1; value < told[2999]; value++ {
		times, last := numberOf(impl.GolombTimes(value)), numberOf(impl.GolombLast(value))
		if len(places[value]) != times || times != told[value-1] || slices.Max(places[value]) != last {
			t.Errorf("%d is at %v: %d times, last at %d", value, places[value], times, last)
		}
	}
	for value := range 170 {
		if last := numberOf(impl.GolombLast(value + 1)); last <= 3000 && numberOf(impl.GolombOf(last)) != value+1 {
			t.Errorf("the last %d is not at %d", value+1, last)
		}
	}
}

func TestBackNumbersLookBack(t *testing.T) {
	told, ok := impl.BackList(3000)
	if !ok || len(told) != 3000 || told[0] != 1 || told[1] != 1 {
		t.Fatalf("BackList: %v, %v", told, ok)
	}
	for n := 3; n <= 3000; n += 7 {
		b := numberOf(impl.BackOf(n - 1))
		if got := numberOf(impl.BackOf(n)); got != numberOf(impl.BackOf(b))+numberOf(impl.BackOf(n-b)) || got != told[n-1] {
			t.Errorf("BackOf %d behind %d: %d", n, b, got)
		}
	}
	for n := 1; n <= 3000; n++ {
		excess := numberOf(impl.BackExcess(n))
		if excess != 2*told[n-1]-n || excess < 0 {
			t.Errorf("BackExcess of %d: %d", n, excess)
		}
		if isPower := n > 1 && bits.OnesCount(uint(n)) == 1; isPower != (excess == 0) {
			t.Errorf("BackExcess of %d: %d", n, excess)
		}
	}
}

func TestNestedNumbersLookBackTwice(t *testing.T) {
	told, times := []int{}, map[int]int{}
	for n := 0; n <= 3000; n++ {
		number := numberOf(impl.NestedOf(n))
		told = append(told, number)
		times[number]++
		if n > 0 && number != n-told[told[n-1]] {
			t.Errorf("NestedOf %d: %d", n, number)
		}
	}
	if told[0] != 0 {
		t.Errorf("NestedOf 0: %d", told[0])
	}
	for value := 0; value <= 1000; value++ {
		if got := numberOf(impl.NestedTimes(value)); got != times[value] || got != 1 && got != 2 {
			t.Errorf("%d is there %d times: %d", value, times[value], got)
		}
	}
}

func TestWildNumbersLookBackByTheTwoBefore(t *testing.T) {
	for _, n := range []int{3, 4, 5, 6, 9, 24, 100, 1000, 2000, 2998, 2999, 3000} {
		b, c := numberOf(impl.WildOf(n-1)), numberOf(impl.WildOf(n-2))
		if got := numberOf(impl.WildOf(n)); got != numberOf(impl.WildOf(n-b))+numberOf(impl.WildOf(n-c)) {
			t.Errorf("WildOf %d: %d", n, got)
		}
	}
	if first, second := numberOf(impl.WildOf(1)), numberOf(impl.WildOf(2)); first != 1 || second != 1 {
		t.Errorf("WildOf 1 and 2: %d, %d", first, second)
	}
}

// TestEachNumberIsAFigureOrAStep asks for the numbers up to the last step: the steps pass over the figures, and over nothing else.
func TestEachNumberIsAFigureOrAStep(t *testing.T) {
	figures, steps := []int{}, []int{}
	for n := 1; n <= 1000; n++ {
		figures = append(figures, numberOf(impl.FigureOf(n)))
		steps = append(steps, numberOf(impl.StepOf(n)))
	}
	for at := 1; at < 1000; at++ {
		if figures[at] != figures[at-1]+steps[at-1] || steps[at] <= steps[at-1] {
			t.Errorf("figure %d and step %d behind %d and %d", figures[at], steps[at], figures[at-1], steps[at-1])
		}
	}
	for number := 1; number <= steps[999]; number++ {
		_, isFigure := slices.BinarySearch(figures, number)
		_, isStep := slices.BinarySearch(steps, number)
		if isFigure == isStep {
			t.Errorf("%d is a figure: %v, and a step: %v", number, isFigure, isStep)
		}
		if got := report(impl.IsFigure(number)); got != (verdict{isFigure, true}) {
			t.Errorf("IsFigure of %d: %v", number, got)
		}
	}
	for _, figure := range figures {
		if got := report(impl.IsFigure(figure)); figure <= 100000 && got != (verdict{true, true}) {
			t.Errorf("IsFigure of %d: %v", figure, got)
		}
	}
	for _, number := range []int{99999, 100000} {
		if _, is := slices.BinarySearch(figures, number); is || report(impl.IsFigure(number)) != (verdict{false, true}) {
			t.Errorf("IsFigure of %d: %v", number, report(impl.IsFigure(number)))
		}
	}
}

func TestHalvedNumbersComeFromHalf(t *testing.T) {
	for _, n := range halvedPlaces() {
		half := numberOf(impl.HalvedOf(n / 2))
		if n%2 != 0 && n > 1 {
			half += numberOf(impl.HalvedOf(n/2 + 1))
		}
		if n > 1 && numberOf(impl.HalvedOf(n)) != half {
			t.Errorf("HalvedOf %d: %d, want %d", n, numberOf(impl.HalvedOf(n)), half)
		}
	}
	if numberOf(impl.HalvedOf(0)) != 0 || numberOf(impl.HalvedOf(1)) != 1 {
		t.Error("the halved sequence begins with other numbers")
	}
}

func plainDivisor(a int, b int) int {
	for b != 0 {
		a, b = b, a%b
	}
	return a
}

func TestHalvedPairsHaveTheirPlaces(t *testing.T) {
	inBounds, outside := 0, 0
	for _, n := range halvedPlaces() {
		if n == 0 {
			continue
		}
		got := both(impl.HalvedPair(n))
		if !got.ok || plainDivisor(got.a, got.b) != 1 || got.a != numberOf(impl.HalvedOf(n)) || n < 1000000000 && got.b != numberOf(impl.HalvedOf(n+1)) {
			t.Errorf("HalvedPair of %d: %v", n, got)
		}
		want := counted{n, true}
		if got.a > 1000 || got.b > 1000 {
			want = counted{}
			outside++
		} else {
			inBounds++
		}
		if rank := count(impl.HalvedRank(got.a, got.b)); rank != want {
			t.Errorf("HalvedRank of %v: %v, want %v", got, rank, want)
		}
	}
	if inBounds == 0 || outside == 0 {
		t.Errorf("%d pairs have a place, %d are too great: both should be there", inBounds, outside)
	}
}

func TestExamplesOfChapter5(t *testing.T) {
	if got := count(impl.GolombTimes(4)); got != (counted{3, true}) {
		t.Errorf("GolombTimes of 4: %v", got)
	}
	for _, n := range []int{6, 7, 8} {
		if got := count(impl.GolombOf(n)); got != (counted{4, true}) {
			t.Errorf("GolombOf %d: %v", n, got)
		}
	}
	if got := count(impl.GolombLast(4)); got != (counted{8, true}) {
		t.Errorf("GolombLast of 4: %v", got)
	}
	for n, want := range map[int]int{7: 1, 8: 0, 2: 0, 4: 0, 16: 0, 1: 1} {
		if got := count(impl.BackExcess(n)); got != (counted{want, true}) {
			t.Errorf("BackExcess of %d: %v, want %d", n, got, want)
		}
	}
	if got := both(impl.HalvedPair(5)); got != (pair{3, 2, true}) {
		t.Errorf("HalvedPair of 5: %v", got)
	}
	if got := count(impl.HalvedRank(3, 2)); got != (counted{5, true}) {
		t.Errorf("HalvedRank of 3 and 2: %v", got)
	}
}
