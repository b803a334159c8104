package tests

import (
	"slices"
	"testing"

	"loop.example/g01240/impl"
)

// placeCalls holds each function of chapter 6 that takes a list; what else they take is valid for all lists.
func placeCalls(numbers []int) map[string][]any {
	all := func(results ...any) []any { return results }
	return map[string][]any{
		"DistancesBack":   all(impl.DistancesBack(numbers)),
		"DistancesAhead":  all(impl.DistancesAhead(numbers)),
		"FormOfList":      all(impl.FormOfList(numbers)),
		"IsForm":          all(impl.IsForm(numbers)),
		"FormOfDistances": all(impl.FormOfDistances(numbers)),
		"AreDistances":    all(impl.AreDistances(numbers)),
		"FirstPlaces":     all(impl.FirstPlaces(numbers)),
		"PlacesOfNumber":  all(impl.PlacesOfNumber(numbers, 1)),
		"RankOfForm":      all(impl.RankOfForm(numbers)),
		"EckList":         all(impl.EckList(numbers, 70)),
		"EckNumber":       all(impl.EckNumber(numbers, 70)),
		"EckFirst":        all(impl.EckFirst(numbers, 3)),
		"EckZeros":        all(impl.EckZeros(numbers, 70)),
		"IsEck":           all(impl.IsEck(numbers, 1)),
		"GreatestGap":     all(impl.GreatestGap(numbers)),
	}
}

// placeNumberCalls holds each function of chapter 6 that takes a bounded number, with a list if it takes one.
func placeNumberCalls(numbers []int) []boundedCall {
	all := func(results ...any) []any { return results }
	return []boundedCall{
		{"PlacesOfNumber", 0, 1000, func(n int) []any { return all(impl.PlacesOfNumber(numbers, n)) }, true},
		{"CountForms", 0, 20, func(n int) []any { return all(impl.CountForms(n)) }, false},
		{"AllForms", 1, 7, func(n int) []any { return all(impl.AllForms(n)) }, false},
		{"EckList", 1, 1000, func(n int) []any { return all(impl.EckList(numbers, n)) }, false},
		{"EckNumber", 1, 5000, func(n int) []any { return all(impl.EckNumber(numbers, n)) }, true},
		{"EckZeros", 1, 5000, func(n int) []any { return all(impl.EckZeros(numbers, n)) }, true},
		{"IsEck", 1, len(numbers), func(n int) []any { return all(impl.IsEck(numbers, n)) }, true},
	}
}

// farNumbers are extreme numbers and those near the bounds of chapter 6.
func farNumbers() []int {
	return append(slices.Clone(extremeNumbers), -5000, -1000, -2, 3, 5, 6, 7, 8, 22, 59, 60, 61, 999, 1000, 1001, 4999, 5000, 5001, 10000, 1<<16+1, 1<<32+1, 1<<40+5, 1<<62, -1<<31, -1<<32+1)
}

// noPlaceLists holds lists that are empty, too long, or with a number that is out of bounds at some place.
func noPlaceLists() [][]int {
	lists := [][]int{nil, {}, make([]int, 61), counting(1, 1, 61), slices.Repeat([]int{1}, 61), make([]int, 1000), counting(0, 1, 5000)}
	for _, number := range []int{-1, -2, -1000, 1001, 1002, 5000, 1 << 32, 1<<32 + 1, -1 << 32, least, greatest} {
		for _, n := range []int{1, 2, 3, 20, 60, 61} {
			for _, at := range []int{0, 1, n / 2, n - 1} {
				if at < n {
					numbers := counting(1, 1, n)
					numbers[at] = number
					lists = append(lists, numbers)
				}
			}
		}
	}
	return lists
}

func TestConstantsOfChapter6(t *testing.T) {
	if impl.MaxPlaces != 60 || impl.MaxValue != 1000 || impl.MaxEck != 5000 {
		t.Errorf("MaxPlaces is %d, MaxValue is %d, MaxEck is %d", impl.MaxPlaces, impl.MaxValue, impl.MaxEck)
	}
}

func TestListsThatChapter6DoesNotTakeGiveZero(t *testing.T) {
	for _, numbers := range noPlaceLists() {
		for name, results := range placeCalls(numbers) {
			checkZero(t, name, numbers, results)
		}
	}
}

// TestNoListHelpsAWrongNumber has both arguments wrong, or the list alone.
func TestNoListHelpsAWrongNumber(t *testing.T) {
	for _, numbers := range noPlaceLists() {
		for _, n := range []int{least, -1, 0, 1, 60, 61, 1000, 1001, 5000, 5001, greatest} {
			for _, c := range placeNumberCalls(numbers) {
				if c.name != "CountForms" && c.name != "AllForms" {
					checkZero(t, c.name, numbers, c.call(n))
				}
			}
			checkZero(t, "EckFirst", numbers, []any{count(impl.EckFirst(numbers, n))})
		}
	}
}

func TestNumbersOfChapter6AreBounded(t *testing.T) {
	for _, numbers := range [][]int{{0}, {1000}, {4, 7, 4, 4, 7}, counting(0, 1, 59), make([]int, 60), counting(941, 1, 60)} {
		checkBounds(t, placeNumberCalls(numbers), farNumbers())
		for _, value := range farNumbers() {
			got := count(impl.EckFirst(numbers, value))
			if got.ok && (value < 0 || value > 5000) || got.ok != (1 <= got.number && got.number <= 5000) || !got.ok && got.number != 0 {
				t.Errorf("EckFirst of %v and %d: %v", numbers, value, got)
			}
		}
	}
}

// TestCallsOfChapter6ThatMaySucceed wants all of them to succeed for a list, but those that ask for more than that.
func TestCallsOfChapter6ThatMaySucceed(t *testing.T) {
	for _, numbers := range placeLists() {
		for name, results := range placeCalls(numbers) {
			ok := results[len(results)-1].(bool)
			if !ok && name != "FormOfDistances" && name != "RankOfForm" && name != "EckFirst" {
				t.Errorf("%s of %v: %v", name, numbers, results)
			}
			if !ok {
				checkZero(t, name, numbers, results)
			}
		}
	}
}

func TestListsOfPlacesAreLeftAlone(t *testing.T) {
	for _, numbers := range placeLists() {
		room := append(slices.Clone(numbers), 1, 2, 77, 1)
		before := slices.Clone(room)
		got, want := placeCalls(room[:len(numbers)]), placeCalls(numbers)
		if !slices.Equal(room, before) {
			t.Fatalf("a call changed the list %v or the room behind it: %v", numbers, room)
		}
		for name, results := range got {
			if !sameResults(results, want[name]) {
				t.Errorf("%s of %v depends on the room behind the list: %v, want %v", name, numbers, results, want[name])
			}
		}
	}
}

func TestListsOfChapter6ShareNoMemory(t *testing.T) {
	// The room behind the argument would be noticed, too.
	argument := append(make([]int, 0, 100), 0, 0, 2, 1, 3)
	one := func(numbers []int, _ bool) [][]int { return [][]int{numbers} }
	checkNoneShared(t, argument[:cap(argument)], map[string]func() [][]int{
		"DistancesBack":   func() [][]int { return one(impl.DistancesBack(argument)) },
		"DistancesAhead":  func() [][]int { return one(impl.DistancesAhead(argument)) },
		"FormOfList":      func() [][]int { return one(impl.FormOfList(argument)) },
		"FormOfDistances": func() [][]int { return one(impl.FormOfDistances(argument)) },
		"FirstPlaces":     func() [][]int { return one(impl.FirstPlaces(argument)) },
		"PlacesOfNumber":  func() [][]int { return one(impl.PlacesOfNumber(argument, 0)) },
		"EckList":         func() [][]int { return one(impl.EckList(argument, 50)) },
		"EckList 5":       func() [][]int { return one(impl.EckList(argument, 5)) },
		"EckList 3":       func() [][]int { return one(impl.EckList(argument, 3)) },
		"AllForms":        func() [][]int { forms, _ := impl.AllForms(5); return forms },
	})
	form := []int{1, 2, 1}
	checkNoneShared(t, form, map[string]func() [][]int{"FormOfList": func() [][]int { return one(impl.FormOfList(form)) }})
}
