package tests

import (
	"slices"
	"strconv"
	"strings"
	"testing"

	"loop.example/g01240/impl"
)

// fieldNumbers makes the list of numbers that a text tells, with blanks between them.
func fieldNumbers(text string) []int {
	numbers := []int{}
	for _, field := range strings.Fields(text) {
		number, _ := strconv.Atoi(field)
		numbers = append(numbers, number)
	}
	return numbers
}

// counting holds so many numbers from first on, each one step behind the one before.
func counting(first int, step int, length int) []int {
	numbers := []int{}
	for at := range length {
		numbers = append(numbers, first+at*step)
	}
	return numbers
}

// plainSame tells, for a place counted from 0, how many steps away the same number is next, back or ahead, or 0.
func plainSame(list []int, at int, step int) int {
	for other := at + step; 0 <= other && other < len(list); other += step {
		if list[other] == list[at] {
			return max(other-at, at-other)
		}
	}
	return 0
}

func plainDistances(list []int, step int) []int {
	distances := []int{}
	for at := range list {
		distances = append(distances, plainSame(list, at, step))
	}
	return distances
}

// plainForm tells for each place how many numbers are new up to the place at which its own number is new.
func plainForm(list []int) []int {
	numbers := []int{}
	for _, number := range list {
		first := slices.Index(list, number)
		different := 0
		for at := range first + 1 {
			if !slices.Contains(list[:at], list[at]) {
				different++
			}
		}
		numbers = append(numbers, different)
	}
	return numbers
}

// mixedLists holds lists of each length in which numbers stand without order, few of them often or many of them seldom.
func mixedLists() [][]int {
	lists := [][]int{}
	mixed := uint32(7)
	for n := 1; n <= 60; n++ {
		for _, most := range []int{1, 2, 5, 30, 1000} {
			numbers := []int{}
			for range n {
				mixed = mixed*1664525 + 1013904223
				numbers = append(numbers, int(mixed>>12)%(most+1))
			}
			lists = append(lists, numbers)
		}
	}
	return lists
}

// placeLists holds all lists of up to five of the numbers 0..3, mixed ones, and those at the bounds of the chapter.
func placeLists() [][]int {
	lists := mixedLists()
	for n := 1; n <= 5; n++ {
		for _, text := range allTexts(n, 4) {
			lists = append(lists, numbersOf(lowered(text)))
		}
	}
	for _, n := range []int{1, 2, 59, 60} {
		lists = append(lists, slices.Repeat([]int{0}, n), slices.Repeat([]int{1}, n), slices.Repeat([]int{1000}, n),
			counting(0, 1, n), counting(1, 1, n), counting(1000, -1, n), counting(1000-n+1, 1, n))
	}
	for _, text := range []string{"4 7 4 4 7", "1 2 1", "0 1000 0", "1000 0 0 1000", "1 2 1 1 2", "2 1 2 2 1"} {
		lists = append(lists, fieldNumbers(text))
	}
	return append(lists, append(counting(0, 1, 59), 0), append([]int{1000}, counting(58, -1, 59)...))
}

func TestDistancesOfKnownLists(t *testing.T) {
	for _, c := range []struct{ list, back, ahead, form, firsts string }{
		{"4 7 4 4 7", "0 0 2 1 3", "2 3 1 0 0", "1 2 1 1 2", "1 2"},
		{"5", "0", "0", "1", "1"},
		{"0", "0", "0", "1", "1"},
		{"1000", "0", "0", "1", "1"},
		{"0 0 0", "0 1 1", "1 1 0", "1 1 1", "1"},
		{"0 1000 0", "0 0 2", "2 0 0", "1 2 1", "1 2"},
		{"3 2 1", "0 0 0", "0 0 0", "1 2 3", "1 2 3"},
		{"9 9 8 9 8 7", "0 1 0 2 2 0", "1 2 2 0 0 0", "1 1 2 1 2 3", "1 3 6"},
	} {
		numbers := fieldNumbers(c.list)
		if got := list(impl.DistancesBack(numbers)); got != someList(c.back) {
			t.Errorf("DistancesBack of %s: %v, want %s", c.list, got, c.back)
		}
		if got := list(impl.DistancesAhead(numbers)); got != someList(c.ahead) {
			t.Errorf("DistancesAhead of %s: %v, want %s", c.list, got, c.ahead)
		}
		if got := list(impl.FormOfList(numbers)); got != someList(c.form) {
			t.Errorf("FormOfList of %s: %v, want %s", c.list, got, c.form)
		}
		if got := list(impl.FirstPlaces(numbers)); got != someList(c.firsts) {
			t.Errorf("FirstPlaces of %s: %v, want %s", c.list, got, c.firsts)
		}
	}
}

func TestDistancesOfManyLists(t *testing.T) {
	for _, numbers := range placeLists() {
		back, ahead := plainDistances(numbers, -1), plainDistances(numbers, 1)
		if got := list(impl.DistancesBack(numbers)); got != list(back, true) {
			t.Errorf("DistancesBack of %v: %v, want %v", numbers, got, back)
		}
		if got := list(impl.DistancesAhead(numbers)); got != list(ahead, true) {
			t.Errorf("DistancesAhead of %v: %v, want %v", numbers, got, ahead)
		}
		if got := count(impl.GreatestGap(numbers)); got != (counted{slices.Max(back), true}) {
			t.Errorf("GreatestGap of %v: %v, want %d", numbers, got, slices.Max(back))
		}
	}
}

func TestGreatestGap(t *testing.T) {
	for text, want := range map[string]int{"4 7 4 4 7": 3, "5": 0, "0 1 2 1000": 0, "0 0": 1, "7 1 2 7 1 7": 3} {
		if got := count(impl.GreatestGap(fieldNumbers(text))); got != (counted{want, true}) {
			t.Errorf("GreatestGap of %s: %v, want %d", text, got, want)
		}
	}
	if got := count(impl.GreatestGap(counting(0, 1, 60))); got != (counted{0, true}) {
		t.Errorf("GreatestGap of 60 different numbers: %v", got)
	}
	if got := count(impl.GreatestGap(append(counting(1, 1, 59), 1))); got != (counted{59, true}) {
		t.Errorf("GreatestGap from the first place to the last: %v", got)
	}
}

func TestPlacesOfNumbers(t *testing.T) {
	for _, numbers := range placeLists() {
		firsts := []int{}
		for at, number := range numbers {
			if !slices.Contains(numbers[:at], number) {
				firsts = append(firsts, at+1)
			}
		}
		if got := list(impl.FirstPlaces(numbers)); got != list(firsts, true) {
			t.Errorf("FirstPlaces of %v: %v, want %v", numbers, got, firsts)
		}
		for _, number := range append([]int{0, 1, 3, 59, 999, 1000}, numbers...) {
			places := []int{}
			for at := range numbers {
				if numbers[at] == number {
					places = append(places, at+1)
				}
			}
			if got := list(impl.PlacesOfNumber(numbers, number)); got != list(places, true) {
				t.Errorf("PlacesOfNumber of %v, %d: %v, want %v", numbers, number, got, places)
			}
		}
	}
}

// TestNumberThatStandsNowhere wants no failure: the list of its places is empty.
func TestNumberThatStandsNowhere(t *testing.T) {
	for _, number := range []int{0, 5, 1000} {
		if got := list(impl.PlacesOfNumber([]int{4, 7, 4, 4, 7}, number)); got != someList("") {
			t.Errorf("PlacesOfNumber of %d: %v", number, got)
		}
	}
	if got := list(impl.PlacesOfNumber([]int{4, 7, 4, 4, 7}, 4)); got != someList("1 3 4") {
		t.Errorf("PlacesOfNumber of 4: %v", got)
	}
}

// TestDistancesBackAndAheadBelongTogether asks the calls alone.
func TestDistancesBackAndAheadBelongTogether(t *testing.T) {
	for _, numbers := range placeLists() {
		back, okBack := impl.DistancesBack(numbers)
		ahead, okAhead := impl.DistancesAhead(numbers)
		if !okBack || !okAhead || len(back) != len(numbers) || len(ahead) != len(numbers) {
			t.Fatalf("distances of %v: %v, %v", numbers, back, ahead)
		}
		for at := range numbers {
			if distance := back[at]; distance > 0 && (numbers[at-distance] != numbers[at] || ahead[at-distance] != distance) {
				t.Errorf("of %v, place %d is %d places behind %d", numbers, at+1, distance, at+1-distance)
			}
			if distance := ahead[at]; distance > 0 && (numbers[at+distance] != numbers[at] || back[at+distance] != distance) {
				t.Errorf("of %v, place %d is %d places before %d", numbers, at+1, distance, at+1+distance)
			}
		}
		firsts, _ := impl.FirstPlaces(numbers)
		for at := range numbers {
			if slices.Contains(firsts, at+1) != (back[at] == 0) {
				t.Errorf("of %v, the number at place %d is new: %v", numbers, at+1, firsts)
			}
		}
		turned := slices.Clone(numbers)
		slices.Reverse(turned)
		slices.Reverse(ahead)
		if got := list(impl.DistancesBack(turned)); got != list(ahead, true) {
			t.Errorf("distances back of %v are %v, and of the list in the other order ahead %v", turned, got, ahead)
		}
	}
}
