package tests

import (
	"slices"
	"strings"
	"testing"

	"loop.example/g01240/impl"
)

const smallNames = "zero one two three four five six seven eight nine ten eleven twelve thirteen fourteen fifteen sixteen seventeen eighteen nineteen"
const tensNames = "twenty thirty forty fifty sixty seventy eighty ninety"

// lowNames holds the names of 0..999.
var lowNames = plainLowNames()

func plainLowNames() []string {
	names := strings.Fields(smallNames)
	digits := names[1:10]
	for _, tens := range strings.Fields(tensNames) {
		names = append(names, tens)
		for _, digit := range digits {
			names = append(names, tens+"-"+digit)
		}
	}
	behind := slices.Clone(names[1:])
	for _, digit := range digits {
		names = append(names, digit+" hundred")
		for _, name := range behind {
			names = append(names, digit+" hundred "+name)
		}
	}
	return names
}

func plainName(n int) string {
	if n < 1000 {
		return lowNames[n]
	}
	name := lowNames[n/1000] + " thousand"
	if n%1000 != 0 {
		name += " " + lowNames[n%1000]
	}
	return name
}

// plainSpelled leaves out of a name all that is no letter.
func plainSpelled(name string) string {
	return strings.Join(strings.FieldsFunc(name, func(sign rune) bool { return sign < 'a' || sign > 'z' }), "")
}

func plainLetters(n int) int { return len(plainSpelled(plainName(n))) }

func plainChain(n int) []int {
	if n == 4 {
		return []int{4}
	}
	return append([]int{n}, plainChain(plainLetters(n))...)
}

// someNamed holds all numbers that have low names, those around thousands, and others up to the last one.
func someNamed() []int {
	numbers := []int{}
	for n := range 2100 {
		numbers = append(numbers, n, 999999-n)
	}
	for thousand := 1; thousand < 1000; thousand++ {
		numbers = append(numbers, 1000*thousand-1, 1000*thousand, 1000*thousand+1, 1001*thousand, 1000*thousand+110, 1000*thousand+(thousand*7919+13)%1000)
	}
	for n := 999999; n > 0; n = n * 60 / 61 {
		numbers = append(numbers, n)
	}
	return numbers
}

func TestKnownNames(t *testing.T) {
	for _, c := range []struct {
		n                  int
		name               string
		letters, different int
	}{
		{0, "zero", 4, 4},
		{1, "one", 3, 3},
		{3, "three", 5, 4},
		{4, "four", 4, 4},
		{8, "eight", 5, 5},
		{10, "ten", 3, 3},
		{11, "eleven", 6, 4},
		{12, "twelve", 6, 5},
		{13, "thirteen", 8, 6},
		{14, "fourteen", 8, 7},
		{15, "fifteen", 7, 5},
		{18, "eighteen", 8, 6},
		{19, "nineteen", 8, 4},
		{20, "twenty", 6, 5},
		{21, "twenty-one", 9, 6},
		{30, "thirty", 6, 5},
		{40, "forty", 5, 5},
		{50, "fifty", 5, 4},
		{80, "eighty", 6, 6},
		{90, "ninety", 6, 5},
		{99, "ninety-nine", 10, 5},
		{100, "one hundred", 10, 7},
		{101, "one hundred one", 13, 7},
		{110, "one hundred ten", 13, 8},
		{120, "one hundred twenty", 16, 10},
		{200, "two hundred", 10, 9},
		{342, "three hundred forty-two", 20, 11},
		{373, "three hundred seventy-three", 24, 10},
		{999, "nine hundred ninety-nine", 21, 9},
		{1000, "one thousand", 11, 9},
		{1001, "one thousand one", 14, 9},
		{1010, "one thousand ten", 14, 9},
		{1100, "one thousand one hundred", 21, 10},
		{2000, "two thousand", 11, 9},
		{10000, "ten thousand", 11, 9},
		{13013, "thirteen thousand thirteen", 24, 11},
		{21000, "twenty-one thousand", 17, 11},
		{100000, "one hundred thousand", 18, 10},
		{100001, "one hundred thousand one", 21, 10},
		{373373, "three hundred seventy-three thousand three hundred seventy-three", 56, 12},
		{900090, "nine hundred thousand ninety", 25, 12},
		{999999, "nine hundred ninety-nine thousand nine hundred ninety-nine", 50, 12},
	} {
		if got := answer(impl.NameOf(c.n)); got != some(c.name) {
			t.Errorf("NameOf %d: %v, want %s", c.n, got, c.name)
		}
		if got := count(impl.ReadName(c.name)); got != (counted{c.n, true}) {
			t.Errorf("ReadName of %s: %v, want %d", c.name, got, c.n)
		}
		if got := count(impl.LettersOf(c.n)); got != (counted{c.letters, true}) {
			t.Errorf("LettersOf %d: %v, want %d", c.n, got, c.letters)
		}
		if got := count(impl.DifferentLetters(c.n)); got != (counted{c.different, true}) {
			t.Errorf("DifferentLetters of %d: %v, want %d", c.n, got, c.different)
		}
		if got, ok := impl.WordsOfName(c.n); !ok || !slices.Equal(got, strings.Split(c.name, " ")) {
			t.Errorf("WordsOfName of %d: %q, %v, want those of %s", c.n, got, ok, c.name)
		}
	}
}

// TestAllNamesAreReadBack asks for the name of each number that has one.
func TestAllNamesAreReadBack(t *testing.T) {
	for n := range 1000000 {
		want := plainName(n)
		name, ok := impl.NameOf(n)
		if !ok || name != want {
			t.Fatalf("NameOf %d: %q, %v, want %q", n, name, ok, want)
		}
		if number, ok := impl.ReadName(name); !ok || number != n {
			t.Fatalf("ReadName of %q: %d, %v, want %d", name, number, ok, n)
		}
	}
}

func TestWordsOfNames(t *testing.T) {
	lengths := map[int]int{}
	for _, n := range someNamed() {
		words, ok := impl.WordsOfName(n)
		if name := plainName(n); !ok || strings.Join(words, " ") != name || len(words) != strings.Count(name, " ")+1 {
			t.Errorf("WordsOfName of %d: %q, %v, want those of %s", n, words, ok, name)
		}
		lengths[len(words)]++
	}
	// 101101 has as many words as there may be.
	words, ok := impl.WordsOfName(101101)
	if !ok || len(words) != 7 || lengths[1] == 0 || lengths[7] == 0 || len(lengths) != 7 {
		t.Errorf("WordsOfName of 101101: %q, %v, and as many words: %v", words, ok, lengths)
	}
}

func TestLettersOfNames(t *testing.T) {
	for _, n := range someNamed() {
		spelled := plainSpelled(plainName(n))
		if got := count(impl.LettersOf(n)); got != (counted{len(spelled), true}) {
			t.Errorf("LettersOf %d: %v, want %d", n, got, len(spelled))
		}
		different, sum := 0, 0
		for sign := 'a'; sign <= 'z'; sign++ {
			letter := string(sign)
			want := strings.Count(spelled, letter)
			got := count(impl.CountLetter(n, letter))
			if got != (counted{want, true}) {
				t.Errorf("CountLetter of %d, %s: %v, want %d", n, letter, got, want)
			}
			sum += got.number
			if got.number > 0 {
				different++
			}
		}
		if sum != len(spelled) {
			t.Errorf("all letters of %d are counted %d times, want %d", n, sum, len(spelled))
		}
		if got := count(impl.DifferentLetters(n)); got != (counted{different, true}) {
			t.Errorf("DifferentLetters of %d: %v, want %d", n, got, different)
		}
	}
}

func TestKnownCountsOfLetters(t *testing.T) {
	for _, c := range []struct {
		n      int
		letter string
		want   int
	}{
		{342, "e", 3}, {342, "r", 3}, {342, "t", 3}, {342, "o", 2}, {342, "a", 0}, {342, "z", 0}, {0, "z", 1}, {0, "a", 0}, {4, "f", 1}, {4, "b", 0},
		{13, "e", 2}, {20, "t", 2}, {21, "n", 2}, {99, "n", 4}, {100, "d", 2}, {1000, "a", 1}, {100000, "a", 1}, {373373, "e", 14}, {999999, "n", 15}, {999999, "a", 1}, {999999, "q", 0},
	} {
		if got := count(impl.CountLetter(c.n, c.letter)); got != (counted{c.want, true}) {
			t.Errorf("CountLetter of %d, %s: %v, want %d", c.n, c.letter, got, c.want)
		}
	}
}

func TestKnownChains(t *testing.T) {
	for n, want := range map[int]string{
		0:      "0 4",
		1:      "1 3 5 4",
		2:      "2 3 5 4",
		3:      "3 5 4",
		4:      "4",
		5:      "5 4",
		9:      "9 4",
		13:     "13 8 5 4",
		20:     "20 6 3 5 4",
		21:     "21 9 4",
		23:     "23 11 6 3 5 4",
		99:     "99 10 3 5 4",
		100:    "100 10 3 5 4",
		323:    "323 23 11 6 3 5 4",
		342:    "342 20 6 3 5 4",
		373373: "373373 56 8 5 4",
		999999: "999999 50 5 4",
	} {
		if got := list(impl.ChainOf(n)); got != someList(want) {
			t.Errorf("ChainOf %d: %v, want %s", n, got, want)
		}
		if got := count(impl.StepsToFour(n)); got != (counted{strings.Count(want, " "), true}) {
			t.Errorf("StepsToFour of %d: %v, want those of %s", n, got, want)
		}
	}
}

func TestChainsEndAtFour(t *testing.T) {
	steps := map[int]int{}
	for _, n := range someNamed() {
		want := plainChain(n)
		chain, ok := impl.ChainOf(n)
		if !ok || !slices.Equal(chain, want) {
			t.Errorf("ChainOf %d: %v, %v, want %v", n, chain, ok, want)
		}
		if slices.Index(chain, 4) != len(chain)-1 {
			t.Errorf("ChainOf %d does not end at the first 4: %v", n, chain)
		}
		if got := count(impl.StepsToFour(n)); got != (counted{len(want) - 1, true}) {
			t.Errorf("StepsToFour of %d: %v, want %d", n, got, len(want)-1)
		}
		steps[len(chain)-1]++
	}
	// No number has more than 6 steps.
	if steps[0] == 0 || steps[6] == 0 || len(steps) != 7 {
		t.Errorf("as many steps as there may be: %v", steps)
	}
}

func TestOnlyFourIsHonest(t *testing.T) {
	for _, n := range append(someNamed(), 4) {
		if got := report(impl.IsHonest(n)); got != (verdict{n == 4, true}) {
			t.Errorf("IsHonest of %d: %v", n, got)
		}
	}
}
