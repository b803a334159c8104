package tests

import (
	"slices"
	"testing"

	"loop.example/g01240/impl"
)

// knownEck are the first numbers of the Eck sequence of 0 as they are known.
const knownEck = "0 0 1 0 2 0 2 2 1 6 0 5 0 2 6 5 4 0 5 3 0 3 2 9 0 4 9 3 6 14 0 6 3 5 15 0 5 3 5 2 17 0 6 11 0 3 8 0 3 3 1 42 0 5 15 20 0 4 32 0 3 11 18 0 4 7 0 3 7 3 2 31 0 6 31 3 6 3 2 8 33 0 9 56 0 3 8 7 19 0 5 37 0 3 8 8 1"

// plainEck tells the first n numbers of the Eck sequence of a list, each by looking back from the last place.
func plainEck(list []int, n int) []int {
	numbers := slices.Clone(list)
	for len(numbers) < n {
		numbers = append(numbers, plainSame(numbers, len(numbers)-1, -1))
	}
	return numbers[:n]
}

// eckLists holds lists whose Eck sequences are told far along.
func eckLists() [][]int {
	lists := [][]int{
		{0}, {1}, {2}, {1000}, {0, 0}, {1, 1}, {4, 7, 4, 4, 7}, {0, 1, 0}, {1, 0, 1, 2},
		slices.Repeat([]int{0}, 60), slices.Repeat([]int{1000}, 60), counting(0, 1, 60), counting(1000, -1, 60), append(counting(1, 1, 59), 1),
	}
	for at, numbers := range mixedLists() {
		if at%29 == 0 {
			lists = append(lists, numbers)
		}
	}
	return lists
}

func TestKnownEckSequence(t *testing.T) {
	known := fieldNumbers(knownEck)
	for n := 1; n <= len(known); n++ {
		if got := list(impl.EckList([]int{0}, n)); got != list(known[:n], true) {
			t.Errorf("EckList of 0 and %d: %v", n, got)
		}
		if got := count(impl.EckNumber([]int{0}, n)); got != (counted{known[n-1], true}) {
			t.Errorf("EckNumber of 0 and %d: %v, want %d", n, got, known[n-1])
		}
	}
	for value, want := range map[int]int{0: 1, 1: 3, 2: 5, 6: 10, 5: 12, 4: 17, 42: 52, 7: 66} {
		if got := count(impl.EckFirst([]int{0}, value)); got != (counted{want, true}) {
			t.Errorf("EckFirst of 0 and %d: %v, want %d", value, got, want)
		}
	}
	if got := count(impl.EckZeros([]int{0}, 10)); got != (counted{4, true}) {
		t.Errorf("EckZeros of 0 and 10: %v", got)
	}
}

// TestEckNumbersAreToldBehindAnyList has n smaller than the list, as great, and greater.
func TestEckNumbersAreToldBehindAnyList(t *testing.T) {
	for _, numbers := range placeLists() {
		want := plainEck(numbers, 130)
		zeros := map[int]int{}
		for at, number := range want {
			zeros[at+1] = zeros[at]
			if number == 0 {
				zeros[at+1]++
			}
		}
		for _, n := range []int{1, 2, len(numbers), len(numbers) + 1, len(numbers) + 2, len(numbers)/2 + 1, 130} {
			if got := list(impl.EckList(numbers, n)); got != list(want[:n], true) {
				t.Errorf("EckList of %v and %d: %v, want %v", numbers, n, got, want[:n])
			}
			if got := count(impl.EckNumber(numbers, n)); got != (counted{want[n-1], true}) {
				t.Errorf("EckNumber of %v and %d: %v, want %d", numbers, n, got, want[n-1])
			}
			if got := count(impl.EckZeros(numbers, n)); got != (counted{zeros[n], true}) {
				t.Errorf("EckZeros of %v and %d: %v, want %d", numbers, n, got, zeros[n])
			}
		}
	}
}

func TestEckSequencesFarAlong(t *testing.T) {
	for _, numbers := range eckLists() {
		want, zeros := plainEck(numbers, 5000), 0
		if got := list(impl.EckList(numbers, 1000)); got != list(want[:1000], true) {
			t.Errorf("EckList of %v and 1000: %v", numbers, got)
		}
		for at, number := range want {
			n := at + 1
			if number == 0 {
				zeros++
			}
			if n > 70 && n < 4990 && n%311 != 0 {
				continue
			}
			if got := count(impl.EckNumber(numbers, n)); got != (counted{number, true}) {
				t.Errorf("EckNumber of %v and %d: %v, want %d", numbers, n, got, number)
			}
			if got := count(impl.EckZeros(numbers, n)); got != (counted{zeros, true}) {
				t.Errorf("EckZeros of %v and %d: %v, want %d", numbers, n, got, zeros)
			}
		}
	}
}

func TestEckFirst(t *testing.T) {
	there, nowhere, greater := 0, 0, 0
	for _, numbers := range eckLists() {
		want := plainEck(numbers, 5000)
		values := append(counting(0, 1, 60), 999, 1000, 1001, 4998, 4999, 5000, 5001, slices.Max(want), slices.Max(want)+1)
		// A value that stands last for the first time is found, too.
		values = append(values, append(slices.Clone(numbers), want[4990:]...)...)
		for _, value := range values {
			expected := counted{}
			if at := slices.Index(want, value); at >= 0 {
				expected = counted{at + 1, true}
				there++
			} else {
				nowhere++
			}
			if expected.ok && value > 1000 {
				greater++
			}
			if got := count(impl.EckFirst(numbers, value)); got != expected {
				t.Errorf("EckFirst of %v and %d: %v, want %v", numbers, value, got, expected)
			}
		}
	}
	if there == 0 || nowhere == 0 || greater == 0 {
		t.Errorf("%d values are there, %d of them greater than MaxValue, %d are nowhere: all should be met", there, greater, nowhere)
	}
}

// TestEckFirstUpToTheLastPlace seeks a list whose number 5000 is new there, and one whose number 5001 is: no place is behind 5000.
func TestEckFirstUpToTheLastPlace(t *testing.T) {
	atLast, behind := 0, 0
	for value := range 60 {
		numbers := plainEck([]int{value}, 5001)
		if number := numbers[4999]; slices.Index(numbers, number) == 4999 {
			atLast++
			if got := count(impl.EckFirst([]int{value}, number)); got != (counted{5000, true}) {
				t.Errorf("EckFirst of %d and %d: %v", value, number, got)
			}
		}
		if number := numbers[5000]; slices.Index(numbers, number) == 5000 {
			behind++
			if got := count(impl.EckFirst([]int{value}, number)); got != (counted{}) {
				t.Errorf("EckFirst of %d and %d: %v", value, number, got)
			}
		}
	}
	if atLast == 0 || behind == 0 {
		t.Errorf("%d numbers are new at the last place, %d behind it: both should be met", atLast, behind)
	}
}

func TestValuesBelowZeroStandNowhere(t *testing.T) {
	for _, value := range []int{-1, -2, -1000, least, least + 1, -1 << 32} {
		if got := count(impl.EckFirst([]int{0, 1}, value)); got != (counted{}) {
			t.Errorf("EckFirst of %d: %v", value, got)
		}
	}
	for _, value := range []int{1 << 32, greatest, greatest - 1} {
		if got := count(impl.EckFirst([]int{0, 1}, value)); got != (counted{}) {
			t.Errorf("EckFirst of %d: %v", value, got)
		}
	}
}

func TestIsEck(t *testing.T) {
	for _, c := range []struct {
		list string
		from int
		want bool
	}{
		{"0", 1, true}, {"1000", 1, true}, {"0 0", 1, true}, {"0 1", 1, false}, {"0 1", 2, true}, {"5 0 0 1 0 2", 1, true}, {"5 0 0 1 0 3", 1, false}, {"5 0 0 1 0 3", 5, false}, {"5 0 0 1 0 3", 6, true},
		{"4 7 4 4 7", 1, false}, {"4 7 4 4 7", 4, false}, {"4 7 4 4 7", 5, true}, {"4 7 4 4 7 3", 5, true}, {"4 7 4 4 7 3", 4, false}, {"4 7 4 4 7 3 0 0 1", 5, true}, {"1 1 1", 2, true}, {"1 1 1", 1, false},
	} {
		if got := report(impl.IsEck(fieldNumbers(c.list), c.from)); got != (verdict{c.want, true}) {
			t.Errorf("IsEck of %s and %d: %v, want %v", c.list, c.from, got, c.want)
		}
	}
	for _, numbers := range placeLists() {
		for from := 1; from <= len(numbers); from++ {
			want := true
			for at := from; at < len(numbers); at++ {
				want = want && numbers[at] == plainSame(numbers, at-1, -1)
			}
			if got := report(impl.IsEck(numbers, from)); got != (verdict{want, true}) {
				t.Errorf("IsEck of %v and %d: %v, want %v", numbers, from, got, want)
			}
		}
	}
}

// TestEckListsAreEck asks the calls alone, and changes one number of a list that is one.
func TestEckListsAreEck(t *testing.T) {
	for _, beginning := range placeLists() {
		numbers, ok := impl.EckList(beginning, 60)
		if got := report(impl.IsEck(numbers, len(beginning))); !ok || got != (verdict{true, true}) {
			t.Errorf("IsEck of %v and %d: %v", numbers, len(beginning), got)
		}
		for at := len(beginning); at < 60; at += 7 {
			other := slices.Clone(numbers)
			other[at]++
			if got := report(impl.IsEck(other, len(beginning))); got != (verdict{false, true}) {
				t.Errorf("IsEck of %v and %d: %v", other, len(beginning), got)
			}
		}
		back, _ := impl.DistancesBack(numbers)
		for at := len(beginning); at < 60; at++ {
			if numbers[at] != back[at-1] {
				t.Errorf("number %d of %v does not tell the distance back", at+1, numbers)
			}
		}
	}
}
