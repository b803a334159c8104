package tests

import (
	"cmp"
	"slices"
	"strings"
	"testing"

	"loop.example/g01240/impl"
)

// someMost holds bounds up to which all names are looked through: the first ones, those around hundreds, and the last ones.
func someMost() []int {
	bounds := []int{323, 373, 1323, 1373}
	for most := range 31 {
		bounds = append(bounds, most, 2000-most)
	}
	for most := 40; most < 2000; most += 20 {
		bounds = append(bounds, most-1, most, most+1)
	}
	return bounds
}

// namesUpTo holds the letters of the names of 0..most.
func namesUpTo(most int) []string {
	names := []string{}
	for n := range most + 1 {
		names = append(names, plainSpelled(plainName(n)))
	}
	return names
}

func TestKnownNumbersWithLetters(t *testing.T) {
	for _, c := range []struct {
		letters, most int
		want          string
	}{
		{0, 0, ""},
		{0, 2000, ""},
		{1, 2000, ""},
		{2, 2000, ""},
		{3, 0, ""},
		{3, 1, "1"},
		{3, 9, "1 2 6"},
		{3, 10, "1 2 6 10"},
		{3, 2000, "1 2 6 10"},
		{4, 0, "0"},
		{4, 2000, "0 4 5 9"},
		{5, 2000, "3 7 8 40 50 60"},
		{7, 2000, "15 16 70"},
		{12, 100, "73 77 78"},
		{24, 1000, "373 377 378 773 777 778 873 877 878"},
		{35, 1372, ""},
		{35, 1373, "1373"},
		{35, 2000, "1373 1377 1378 1773 1777 1778 1873 1877 1878"},
		{36, 2000, ""},
		{56, 2000, ""},
		{greatest, 2000, ""},
	} {
		if got := list(impl.WithLetters(c.letters, c.most)); got != someList(c.want) {
			t.Errorf("WithLetters of %d, %d: %v, want %s", c.letters, c.most, got, c.want)
		}
	}
}

func TestNumbersWithLetters(t *testing.T) {
	for _, most := range []int{0, 1, 4, 20, 21, 99, 100, 101, 999, 1000, 1001, 1999, 2000} {
		found := []int{}
		for letters := range 60 {
			want := []int{}
			for n := range most + 1 {
				if plainLetters(n) == letters {
					want = append(want, n)
				}
			}
			numbers, ok := impl.WithLetters(letters, most)
			if !ok || !slices.Equal(numbers, want) {
				t.Errorf("WithLetters of %d, %d: %v, %v, want %v", letters, most, numbers, ok, want)
			}
			found = append(found, numbers...)
		}
		slices.Sort(found)
		if !slices.Equal(found, counting(0, 1, most+1)) {
			t.Errorf("not each number up to %d has so many letters once: %v", most, found)
		}
	}
}

func TestFirstNumbersWithALetter(t *testing.T) {
	first := map[string]int{
		"a": 1000, "d": 100, "e": 0, "f": 4, "g": 8, "h": 3, "i": 5, "l": 11, "n": 1, "o": 0, "r": 0, "s": 6, "t": 2, "u": 4, "v": 5, "w": 2, "x": 6, "y": 20, "z": 0,
	}
	for sign := 'a'; sign <= 'z'; sign++ {
		letter := string(sign)
		n, is := first[letter]
		if got := count(impl.FirstWithLetter(letter)); got != (counted{n, is}) {
			t.Errorf("FirstWithLetter of %s: %v, want %d, %v", letter, got, n, is)
		}
		if in := strings.Contains(smallNames+tensNames+"hundred thousand", letter); in != is {
			t.Errorf("%s is in a word: %v", letter, in)
		}
		for other := range n {
			if got := count(impl.CountLetter(other, letter)); got != (counted{0, true}) {
				t.Errorf("%s is in the name of %d before %d: %v", letter, other, n, got)
			}
		}
	}
}

func TestKnownMostLetters(t *testing.T) {
	for most, want := range map[int]pair{
		0: {0, 4, true}, 1: {0, 4, true}, 2: {0, 4, true}, 3: {3, 5, true}, 10: {3, 5, true}, 11: {11, 6, true}, 12: {11, 6, true}, 13: {13, 8, true}, 17: {17, 9, true},
		20: {17, 9, true}, 100: {73, 12, true}, 372: {323, 23, true}, 373: {373, 24, true}, 1000: {373, 24, true}, 1372: {1323, 34, true}, 1373: {1373, 35, true}, 2000: {1373, 35, true},
	} {
		if got := both(impl.MostLetters(most)); got != want {
			t.Errorf("MostLetters of %d: %v, want %v", most, got, want)
		}
	}
}

func TestKnownSumsOfLetters(t *testing.T) {
	for most, want := range map[int]int{0: 0, 1: 3, 2: 6, 3: 11, 4: 15, 5: 19, 10: 39, 20: 112, 99: 854, 100: 864, 1000: 18451, 2000: 47891} {
		if got := count(impl.SumOfLetters(most)); got != (counted{want, true}) {
			t.Errorf("SumOfLetters of %d: %v, want %d", most, got, want)
		}
	}
}

func TestKnownFirstNames(t *testing.T) {
	for most, want := range map[int]int{0: 0, 1: 1, 2: 1, 3: 1, 4: 4, 5: 5, 6: 5, 7: 5, 8: 8, 9: 8, 18: 8, 100: 8, 800: 8, 1000: 8, 2000: 8} {
		if got := count(impl.FirstInAlphabet(most)); got != (counted{want, true}) {
			t.Errorf("FirstInAlphabet of %d: %v, want %d", most, got, want)
		}
	}
}

func TestNamesUpToABound(t *testing.T) {
	for _, most := range someMost() {
		names := namesUpTo(most)
		longest := slices.MaxFunc(names, func(a string, b string) int { return cmp.Compare(len(a), len(b)) })
		// Of names that are as long, the first one has the least number.
		n := slices.IndexFunc(names, func(name string) bool { return len(name) == len(longest) })
		if got := both(impl.MostLetters(most)); got != (pair{n, len(longest), true}) {
			t.Errorf("MostLetters of %d: %v, want %d, %d", most, got, n, len(longest))
		}
		if got, want := count(impl.FirstInAlphabet(most)), slices.Index(names, slices.Min(names)); got != (counted{want, true}) {
			t.Errorf("FirstInAlphabet of %d: %v, want %d", most, got, want)
		}
		if got, want := count(impl.SumOfLetters(most)), len(strings.Join(names[1:], "")); got != (counted{want, true}) {
			t.Errorf("SumOfLetters of %d: %v, want %d", most, got, want)
		}
	}
}

func TestKnownRanks(t *testing.T) {
	for _, c := range []struct{ n, most, want int }{
		{0, 0, 0}, {0, 1, 1}, {1, 1, 0}, {0, 4, 4}, {4, 4, 0}, {1, 4, 1}, {3, 4, 2}, {2, 4, 3}, {8, 8, 0}, {5, 8, 1}, {0, 100, 100}, {8, 100, 0}, {0, 2000, 2000}, {8, 2000, 0},
		// Eighteen comes before eight hundred, though a blank would come before e, and eleven behind both.
		{18, 800, 1}, {800, 800, 2}, {11, 800, 13},
	} {
		if got := count(impl.RankInAlphabet(c.n, c.most)); got != (counted{c.want, true}) {
			t.Errorf("RankInAlphabet of %d, %d: %v, want %d", c.n, c.most, got, c.want)
		}
	}
}

func TestRanksOfAllNumbersTogether(t *testing.T) {
	for _, most := range []int{0, 1, 2, 20, 21, 99, 100, 101, 110, 812, 1001, 2000} {
		names := namesUpTo(most)
		sorted := slices.Sorted(slices.Values(names))
		ranks := []int{}
		for n, name := range names {
			if most == 2000 && n%7 != 0 && n < 1980 {
				continue
			}
			rank, ok := impl.RankInAlphabet(n, most)
			if want, _ := slices.BinarySearch(sorted, name); !ok || rank != want {
				t.Errorf("RankInAlphabet of %d, %d: %d, %v, want %d", n, most, rank, ok, want)
			}
			ranks = append(ranks, rank)
		}
		slices.Sort(ranks)
		if most < 2000 && !slices.Equal(ranks, counting(0, 1, most+1)) {
			t.Errorf("not each rank up to %d is there once: %v", most, ranks)
		}
		// The first one has the rank 0.
		first, _ := impl.FirstInAlphabet(most)
		if got := count(impl.RankInAlphabet(first, most)); got != (counted{0, true}) {
			t.Errorf("RankInAlphabet of %d, %d: %v", first, most, got)
		}
	}
}

func TestKnownOrderOfNames(t *testing.T) {
	for _, c := range []struct{ a, b, want int }{
		{0, 0, 0}, {4, 4, 0}, {999999, 999999, 0}, {0, 1, 1}, {1, 0, -1}, {8, 0, -1}, {4, 5, 1},
		// A name comes before those that it begins.
		{8, 18, -1}, {8, 800, -1}, {60, 61, -1}, {100, 100000, -1}, {4, 14, -1}, {1000, 1001, -1}, {6, 60, -1},
		// Blanks and - would come before letters.
		{18, 800, -1}, {8000, 18, 1}, {61, 60000, -1}, {21, 20000, -1}, {90000, 98, 1}, {80, 800, 1}, {7000, 17, 1}, {7000, 70, -1},
	} {
		if got := count(impl.CompareNames(c.a, c.b)); got != (counted{c.want, true}) {
			t.Errorf("CompareNames of %d and %d: %v, want %d", c.a, c.b, got, c.want)
		}
		if got := count(impl.CompareNames(c.b, c.a)); got != (counted{-c.want, true}) {
			t.Errorf("CompareNames of %d and %d: %v, want %d", c.b, c.a, got, -c.want)
		}
	}
}

func TestOrderOfNames(t *testing.T) {
	numbers := []int{}
	for at, n := range someNamed() {
		if at%23 == 0 || at < 60 {
			numbers = append(numbers, n)
		}
	}
	for _, a := range numbers {
		for _, b := range numbers {
			want := strings.Compare(plainSpelled(plainName(a)), plainSpelled(plainName(b)))
			if got := count(impl.CompareNames(a, b)); got != (counted{want, true}) || want == 0 && a != b {
				t.Fatalf("CompareNames of %d and %d: %v, want %d", a, b, got, want)
			}
		}
	}
}
