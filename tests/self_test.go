package tests

import (
	"slices"
	"strconv"
	"strings"
	"testing"

	"loop.example/g01240/impl"
)

// The first numbers of the sequences as they are known: the nested and the halved ones from their number 0 on.
const (
	knownGolomb  = "1 2 2 3 3 4 4 4 5 5 5 6 6 6 6 7 7 7 7 8 8 8 8 9 9 9 9 9 10 10 10 10 10 11 11 11 11 11 12 12 12 12 12 12"
	knownBack    = "1 1 2 2 3 4 4 4 5 6 7 7 8 8 8 8 9 10 11 12 12 13 14 14 15 15 15 16 16 16 16 16"
	knownNested  = "0 1 1 2 3 3 4 4 5 6 6 7 8 8 9 9 10 11 11 12 12 13 14 14 15 16 16 17 17 18 19 19 20 21 21"
	knownWild    = "1 1 2 3 3 4 5 5 6 6 6 8 8 8 10 9 10 11 11 12 12 12 12 16 14 14 16 16 16 16 20 17 17 20 21 19 20 22 21 22"
	knownFigures = "1 3 7 12 18 26 35 45 56 69 83 98 114 131 150 170 191 213 236 260 285 312 340 369"
	knownSteps   = "2 4 5 6 8 9 10 11 13 14 15 16 17 19 20 21 22 23 24 25 27 28 29 30 31 32 33 34 36"
	knownHalved  = "0 1 1 2 1 3 2 3 1 4 3 5 2 5 3 4 1 5 4 7 3 8 5 7 2 7 5 8 3 7 4 5 1 6 5 9 4 11 7 10 3 11 8 13 5 12 7 9 2"
)

// pair is the answer of a call that tells two numbers.
type pair struct {
	a, b int
	ok   bool
}

func both(a int, b int, ok bool) pair { return pair{a, b, ok} }

// plainGolomb tells each value as often as the number at the place of the value says.
func plainGolomb(n int) []int {
	told := []int{1, 2, 2}
	for value := 3; len(told) < n; value++ {
		told = append(told, slices.Repeat([]int{value}, told[value-1])...)
	}
	return told[:n]
}

func plainBack(n int) []int {
	told := []int{0, 1, 1}
	for at := 3; at <= n; at++ {
		b := told[at-1]
		told = append(told, told[b]+told[at-b])
	}
	return told[1 : n+1]
}

// plainNested tells the greatest whole number that is not greater than n + 1 divided by the golden section.
func plainNested(n int) int {
	number := 0
	for at := number + 1; (2*at+n+1)*(2*at+n+1) <= 5*(n+1)*(n+1); at++ {
		number = at
	}
	return number
}

func plainWild(n int) []int {
	told := []int{0, 1, 1}
	for at := 3; at <= n; at++ {
		b, c := told[at-1], told[at-2]
		told = append(told, told[at-b]+told[at-c])
	}
	return told[1 : n+1]
}

// plainFigures tells the figures, in the first list, and the steps between them.
func plainFigures(n int) ([]int, []int) {
	figures, steps := []int{1}, []int{}
	for number := 2; len(figures) <= n; number++ {
		if !slices.Contains(figures, number) {
			steps = append(steps, number)
			figures = append(figures, figures[len(figures)-1]+number)
		}
	}
	return figures, steps
}

var halvedMemo = map[int]int{0: 0, 1: 1}

// plainHalved tells a number of the halved sequence by its rule, without any limit.
func plainHalved(n int) int {
	if number, known := halvedMemo[n]; known {
		return number
	}
	number := plainHalved(n / 2)
	if n%2 != 0 {
		number += plainHalved(n/2 + 1)
	}
	halvedMemo[n] = number
	return number
}

// checkKnown compares numbers with those that are known, the first one of which has the place first.
func checkKnown(t *testing.T, name string, known string, first int, tell func(int) (int, bool)) {
	t.Helper()
	for at, text := range strings.Fields(known) {
		want, _ := strconv.Atoi(text)
		if got := count(tell(first + at)); got != (counted{want, true}) {
			t.Errorf("%s of %d: %v, want %d", name, first+at, got, want)
		}
	}
}

func TestKnownNumbersOfSequences(t *testing.T) {
	checkKnown(t, "GolombOf", knownGolomb, 1, impl.GolombOf)
	checkKnown(t, "GolombTimes", knownGolomb, 1, impl.GolombTimes)
	checkKnown(t, "GolombLast", "1 3 5 8 11 15 19 23 28 33 38", 1, impl.GolombLast)
	checkKnown(t, "GolombSum", "1 3 5 8 11 15 19 23 28 33 38", 1, impl.GolombSum)
	checkKnown(t, "BackOf", knownBack, 1, impl.BackOf)
	checkKnown(t, "BackExcess", "1 0 1 0 1 2 1 0 1 2 3 2 3 2 1 0 1 2 3 4 3 4 5 4 5 4 3 4 3 2 1 0", 1, impl.BackExcess)
	checkKnown(t, "NestedOf", knownNested, 0, impl.NestedOf)
	checkKnown(t, "NestedTimes", "1 2 1 2 2 1 2 1 2 2 1 2 2 1 2 1 2 2 1 2 1 2", 0, impl.NestedTimes)
	checkKnown(t, "WildOf", knownWild, 1, impl.WildOf)
	checkKnown(t, "WildOf", "502", 1000, impl.WildOf)
	checkKnown(t, "FigureOf", knownFigures, 1, impl.FigureOf)
	checkKnown(t, "StepOf", knownSteps, 1, impl.StepOf)
	checkKnown(t, "HalvedOf", knownHalved, 0, impl.HalvedOf)
}

func TestGolombsSequence(t *testing.T) {
	told, sum := plainGolomb(3000), 0
	for at, want := range told {
		n := at + 1
		sum += want
		if got := count(impl.GolombOf(n)); got != (counted{want, true}) {
			t.Errorf("GolombOf %d: %v, want %d", n, got, want)
		}
		if got := count(impl.GolombTimes(n)); got != (counted{want, true}) {
			t.Errorf("GolombTimes of %d: %v, want %d", n, got, want)
		}
		if got := count(impl.GolombSum(n)); got != (counted{sum, true}) {
			t.Errorf("GolombSum of %d: %v, want %d", n, got, sum)
		}
		if got := count(impl.GolombLast(n)); got != (counted{sum, true}) {
			t.Errorf("GolombLast of %d: %v, want %d", n, got, sum)
		}
	}
}

func TestTheBackSequence(t *testing.T) {
	for at, want := range plainBack(3000) {
		n := at + 1
		if got := count(impl.BackOf(n)); got != (counted{want, true}) {
			t.Errorf("BackOf %d: %v, want %d", n, got, want)
		}
		if got := count(impl.BackExcess(n)); got != (counted{2*want - n, true}) {
			t.Errorf("BackExcess of %d: %v, want %d", n, got, 2*want-n)
		}
	}
}

// TestListsHaveSoManyNumbers asks for lists of one number, too, of which the sequences begin with more.
func TestListsHaveSoManyNumbers(t *testing.T) {
	golomb, back := plainGolomb(3000), plainBack(3000)
	for n := 1; n <= 3000; n++ {
		if n > 100 && n < 2900 && n%97 != 0 {
			continue
		}
		if got, ok := impl.GolombList(n); !ok || !slices.Equal(got, golomb[:n]) {
			t.Errorf("GolombList of %d: %v, %v", n, got, ok)
		}
		if got, ok := impl.BackList(n); !ok || !slices.Equal(got, back[:n]) {
			t.Errorf("BackList of %d: %v, %v", n, got, ok)
		}
	}
}

func TestTheNestedSequence(t *testing.T) {
	times := map[int]int{}
	for n := 0; n <= 3000; n++ {
		want := plainNested(n)
		times[want]++
		if got := count(impl.NestedOf(n)); got != (counted{want, true}) {
			t.Errorf("NestedOf %d: %v, want %d", n, got, want)
		}
	}
	for value := 0; value <= 1000; value++ {
		if got := count(impl.NestedTimes(value)); got != (counted{times[value], true}) {
			t.Errorf("NestedTimes of %d: %v, want %d", value, got, times[value])
		}
	}
}

func TestTheWildSequence(t *testing.T) {
	for at, want := range plainWild(3000) {
		if got := count(impl.WildOf(at + 1)); got != (counted{want, true}) {
			t.Errorf("WildOf %d: %v, want %d", at+1, got, want)
		}
	}
}

func TestFiguresAndSteps(t *testing.T) {
	figures, steps := plainFigures(1000)
	for at, step := range steps {
		n := at + 1
		if got := count(impl.FigureOf(n)); got != (counted{figures[at], true}) {
			t.Errorf("FigureOf %d: %v, want %d", n, got, figures[at])
		}
		if got := count(impl.StepOf(n)); got != (counted{step, true}) {
			t.Errorf("StepOf %d: %v, want %d", n, got, step)
		}
	}
}

func TestIsFigure(t *testing.T) {
	figures, _ := plainFigures(1000)
	for number := 1; number <= 100000; number++ {
		_, is := slices.BinarySearch(figures, number)
		// Most numbers are none: those beside a figure, and some of the others, stand for them.
		_, before := slices.BinarySearch(figures, number+1)
		_, behind := slices.BinarySearch(figures, number-1)
		if number > 3000 && number < 99900 && !is && !before && !behind && number%61 != 0 {
			continue
		}
		if got := report(impl.IsFigure(number)); got != (verdict{is, true}) {
			t.Errorf("IsFigure of %d: %v, want %v", number, got, is)
		}
	}
}

// halvedPlaces holds places of the halved sequence: the first ones, those at powers of two, and those up to the last one.
func halvedPlaces() []int {
	places := []int{}
	for n := range 3000 {
		places = append(places, n, 1000000000-n)
	}
	for power := 1; power <= 1000000000; power *= 2 {
		places = append(places, power, power-1, power+1, power/3, power/3*2+1, power/7*5)
	}
	for n := 987654321; n > 0; n = n * 30 / 31 {
		places = append(places, n)
	}
	return places
}

func TestTheHalvedSequence(t *testing.T) {
	for _, n := range halvedPlaces() {
		want, behind := plainHalved(n), plainHalved(n+1)
		if got := count(impl.HalvedOf(n)); got != (counted{want, true}) {
			t.Errorf("HalvedOf %d: %v, want %d", n, got, want)
		}
		if got := both(impl.HalvedPair(n)); n > 0 && got != (pair{want, behind, true}) {
			t.Errorf("HalvedPair of %d: %v, want %d and %d", n, got, want, behind)
		}
	}
	for power := 1; power <= 1000000000; power *= 2 {
		if got := count(impl.HalvedOf(power)); got != (counted{1, true}) {
			t.Errorf("HalvedOf %d: %v", power, got)
		}
	}
}

// ranksOfPairs tells of all pairs of numbers up to 1000 the place of theirs, up to MaxFar: half of it has the pair from which each of them comes.
func ranksOfPairs() map[[2]int]int {
	ranks := map[[2]int]int{}
	var take func(a int, b int, n int)
	take = func(a int, b int, n int) {
		if a > 1000 || b > 1000 || n > 1000000000 {
			return
		}
		ranks[[2]int{a, b}] = n
		take(a, a+b, 2*n)
		take(a+b, b, 2*n+1)
	}
	take(1, 1, 1)
	return ranks
}

func TestHalvedRank(t *testing.T) {
	ranks := ranksOfPairs()
	for a := 1; a <= 1000; a++ {
		for b := 1; b <= 1000; b++ {
			want := counted{}
			if n, ok := ranks[[2]int{a, b}]; ok {
				want = counted{n, true}
			}
			if got := count(impl.HalvedRank(a, b)); got != want {
				t.Errorf("HalvedRank of %d and %d: %v, want %v", a, b, got, want)
			}
		}
	}
}

func TestHalvedRanksAtTheEnds(t *testing.T) {
	for _, c := range []struct {
		a, b int
		want counted
	}{
		{1, 1, counted{1, true}}, {1, 2, counted{2, true}}, {2, 1, counted{3, true}}, {3, 2, counted{5, true}}, {2, 3, counted{6, true}},
		{1, 30, counted{1 << 29, true}}, {1, 31, counted{}}, {29, 1, counted{1<<29 - 1, true}}, {30, 1, counted{}}, {1, 1000, counted{}}, {1000, 1, counted{}},
		{1000, 999, counted{}}, {999, 1000, counted{}}, {2, 2, counted{}}, {1000, 1000, counted{}}, {2, 4, counted{}}, {6, 4, counted{}}, {9, 6, counted{}}, {999, 3, counted{}},
		{987, 610, counted{0b101010101010101, true}}, {946, 995, counted{999292926, true}}, {995, 49, counted{999292927, true}},
		{695, 729, counted{}}, {729, 34, counted{}}, {34, 733, counted{}}, {733, 699, counted{}},
	} {
		if got := count(impl.HalvedRank(c.a, c.b)); got != c.want {
			t.Errorf("HalvedRank of %d and %d: %v, want %v", c.a, c.b, got, c.want)
		}
	}
}
