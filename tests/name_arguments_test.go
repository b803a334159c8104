package tests

import (
	"regexp"
	"slices"
	"strings"
	"testing"

	"loop.example/g01240/impl"
)

// nameCalls holds each function of chapter 8 that takes a number, or a bound of numbers, alone or beside a valid argument.
func nameCalls() []boundedCall {
	all := func(results ...any) []any { return results }
	return []boundedCall{
		{"NameOf", 0, 999999, func(n int) []any { return all(impl.NameOf(n)) }, false},
		{"LettersOf", 0, 999999, func(n int) []any { return all(impl.LettersOf(n)) }, false},
		{"CountLetter", 0, 999999, func(n int) []any { return all(impl.CountLetter(n, "e")) }, true},
		{"CountLetter q", 0, 999999, func(n int) []any { return all(impl.CountLetter(n, "q")) }, true},
		{"ChainOf", 0, 999999, func(n int) []any { return all(impl.ChainOf(n)) }, false},
		{"StepsToFour", 0, 999999, func(n int) []any { return all(impl.StepsToFour(n)) }, true},
		{"IsHonest", 0, 999999, func(n int) []any { return all(impl.IsHonest(n)) }, true},
		{"WithLetters", 0, 2000, func(n int) []any { return all(impl.WithLetters(4, n)) }, false},
		{"WithLetters 0", 0, 2000, func(n int) []any { return all(impl.WithLetters(0, n)) }, true},
		{"WithLetters of", 0, greatest, func(n int) []any { return all(impl.WithLetters(n, 2000)) }, true},
		{"MostLetters", 0, 2000, func(n int) []any { return all(impl.MostLetters(n)) }, true},
		{"FirstInAlphabet", 0, 2000, func(n int) []any { return all(impl.FirstInAlphabet(n)) }, true},
		{"RankInAlphabet 0", 0, 2000, func(n int) []any { return all(impl.RankInAlphabet(0, n)) }, true},
		{"RankInAlphabet 13", 13, 2000, func(n int) []any { return all(impl.RankInAlphabet(13, n)) }, false},
		{"RankInAlphabet of", 0, 2000, func(n int) []any { return all(impl.RankInAlphabet(n, 2000)) }, true},
		{"RankInAlphabet twice", 0, 2000, func(n int) []any { return all(impl.RankInAlphabet(n, n)) }, true},
		{"CompareNames", 0, 999999, func(n int) []any { return all(impl.CompareNames(n, 342)) }, true},
		{"CompareNames with", 0, 999999, func(n int) []any { return all(impl.CompareNames(342, n)) }, true},
		{"CompareNames twice", 0, 999999, func(n int) []any { return all(impl.CompareNames(n, n)) }, true},
		{"SumOfLetters", 0, 2000, func(n int) []any { return all(impl.SumOfLetters(n)) }, true},
		{"WordsOfName", 0, 999999, func(n int) []any { return all(impl.WordsOfName(n)) }, false},
		{"DifferentLetters", 0, 999999, func(n int) []any { return all(impl.DifferentLetters(n)) }, false},
	}
}

// noLetters holds texts that are no letters.
func noLetters() []string {
	texts := []string{"", "aa", "ab", "zz", "e ", " e", "ee", "e\n", "-e", "one", "ä", "é", "е", "ｅ", "ß", "\xc3", "\xff", "a\x00", strings.Repeat("a", 26), "abcdefghijklmnopqrstuvwxyz", strings.Repeat("e", 5000)}
	for sign := range 256 {
		if sign < 'a' || sign > 'z' {
			texts = append(texts, string([]byte{byte(sign)}), string([]byte{byte(sign), 'e'}), string([]byte{'e', byte(sign)}))
		}
	}
	return texts
}

// grammarOfNames matches the names alone.
func grammarOfNames() *regexp.Regexp {
	oneOf := func(names []string) string { return "(" + strings.Join(names, "|") + ")" }
	small := strings.Fields(smallNames)
	digit := oneOf(small[1:10])
	low := "(" + oneOf(small[1:]) + "|" + oneOf(strings.Fields(tensNames)) + "(-" + digit + ")?)"
	part := "(" + digit + " hundred( " + low + ")?|" + low + ")"
	return regexp.MustCompile(`\A(zero|` + part + `( thousand( ` + part + `)?)?)\z`)
}

// checkReading wants a text to be read if it is a name, and then as its number.
func checkReading(t *testing.T, grammar *regexp.Regexp, text string) bool {
	t.Helper()
	n, ok := impl.ReadName(text)
	is := grammar.MatchString(text)
	if ok != is || !ok && n != 0 || ok && (n < 0 || n > 999999 || plainName(n) != text) {
		t.Errorf("ReadName of %q: %d, %v, want %v", text, n, ok, is)
	}
	return is
}

func TestConstantsOfChapter8(t *testing.T) {
	if impl.MaxNamed != 999999 {
		t.Errorf("MaxNamed is %d", impl.MaxNamed)
	}
}

func TestNumbersOfChapter8AreBounded(t *testing.T) {
	checkBounds(t, nameCalls(), append(slices.Clone(extremeNumbers), -999999, -2000, -2, 3, 4, 5, 12, 13, 14, 22, 56, 99, 100, 101, 110, 1000, 1001, 1999, 2000, 2001, 4000,
		99999, 100000, 100001, 999998, 999999, 1000000, 1000001, 1999999, 1<<31, 1<<32+1, 1<<32+4, 1<<40+5, 1<<62, -1<<31, -1<<32+4))
}

func TestNumbersBeyondTheMostHaveNoRank(t *testing.T) {
	numbers := append(slices.Clone(extremeNumbers), -2, 3, 4, 5, 99, 100, 101, 1000, 1001, 1999, 2000, 2001, 999999, 1000000)
	for _, n := range numbers {
		for _, most := range numbers {
			want := 0 <= n && n <= most && most <= 2000
			if got := count(impl.RankInAlphabet(n, most)); got.ok != want || !want && got.number != 0 {
				t.Errorf("RankInAlphabet of %d, %d: %v, want %v", n, most, got, want)
			}
		}
	}
}

func TestBothNumbersOfNamesAreBounded(t *testing.T) {
	numbers := append(slices.Clone(extremeNumbers), -2, 4, 100, 2000, 2001, 999998, 999999, 1000000)
	for _, a := range numbers {
		for _, b := range numbers {
			valid := 0 <= a && a <= 999999 && 0 <= b && b <= 999999
			if got := count(impl.CompareNames(a, b)); got.ok != valid || !valid && got.number != 0 {
				t.Errorf("CompareNames of %d and %d: %v, want %v", a, b, got, valid)
			}
			valid = a >= 0 && 0 <= b && b <= 2000
			if numbers, ok := impl.WithLetters(a, b); ok != valid || !valid && len(numbers) != 0 {
				t.Errorf("WithLetters of %d, %d: %v, %v, want %v", a, b, numbers, ok, valid)
			}
		}
	}
}

func TestTextsThatAreNoLettersGiveZero(t *testing.T) {
	for _, text := range noLetters() {
		checkZero(t, "FirstWithLetter", text, []any{count(impl.FirstWithLetter(text))})
		for _, n := range []int{-1, 0, 4, 342, 1000, 999999, 1000000} {
			checkZero(t, "CountLetter", text, []any{count(impl.CountLetter(n, text))})
		}
	}
}

func TestTextsThatAreNoNames(t *testing.T) {
	texts := []string{
		"", " ", "-", "  ", "--", "\n", "four ", " four", "four\n", "four\x00", "\tfour", "fo ur", "Four", "FOUR", "fourr", "fou", "quatre", "4", "0", "-4", "four-", "-four", "minus four",
		"one hundred  one", " one hundred one", "one hundred one ", "one  hundred one", "one\thundred one", "one\nhundred one", "one\u00a0hundred one", "one-hundred one", "one hundred-one", "onehundred one",
		"one hundred and one", "one thousand and one", "and one", "one and", "One hundred one", "one Hundred one", "ONE HUNDRED ONE", "Zero",
		"one hundred zero", "zero hundred", "zero thousand", "one thousand zero", "zero zero", "zero one", "one zero", "twenty-zero", "zero-one", "one thousand zero hundred", "zero hundred one", "zero thousand one",
		"one thousand thousand", "one hundred hundred", "twenty one", "twenty-one-one", "twenty-ten", "twenty-eleven", "twenty-twenty", "twenty--one", "twenty -one", "twenty- one", "twenty - one", "twenty-", "-twenty", "twenty-two-", "one-twenty", "one-one", "nineteen-one", "ten-one", "twenty-hundred", "twenty-one-hundred",
		"ten hundred", "eleven hundred", "twenty hundred", "twenty-one hundred", "ninety-nine hundred", "hundred", "thousand", "a hundred", "hundred one", "thousand one", "hundred thousand", "one two", "ten one", "one ten", "twenty ten", "one twenty",
		"one hundred one hundred", "one hundred two hundred", "one hundred twenty one", "one hundred one one", "one thousand one thousand", "two thousand one thousand", "one thousand one hundred thousand", "one hundred thousand thousand", "one thousand hundred", "one thousand hundred one",
		"one million", "one thousand thousand one", "ten hundred thousand", "one hundred hundred thousand", "fourty", "fourty-two", "ninty", "ninteen", "fiveteen", "threeteen", "fivety", "twoty", "twelfth", "eightteen", "eightty", "oneteen", "first", "nil", "null", "nought",
		"four\x80", "\xfffour", "fоur", "ｆour", "four, five", "four.", "one hundred, one", "one_hundred", "one thousand,one",
		strings.Repeat("one ", 5000), strings.Repeat(" ", 5000), strings.Repeat("-", 5000), "one" + strings.Repeat(" hundred", 32), "one" + strings.Repeat(" thousand", 22), strings.Repeat("four", 5000), strings.Repeat("twenty-", 5000) + "one",
		"four" + strings.Repeat(" ", 5000), strings.Repeat("nine hundred ninety-nine thousand ", 50) + "one",
	}
	for _, text := range texts {
		if n, ok := impl.ReadName(text); ok || n != 0 {
			t.Errorf("ReadName of %q: %d, %v", text, n, ok)
		}
	}
}

// TestShortTextsOfWords reads all texts of up to three words, with a blank or - between them.
func TestShortTextsOfWords(t *testing.T) {
	grammar := grammarOfNames()
	words := append(strings.Fields(smallNames+" "+tensNames), "hundred", "thousand", "and", "")
	read := 0
	texts := []string{}
	for length := 1; length <= 3; length++ {
		longer := []string{}
		for _, word := range words {
			for _, text := range texts {
				longer = append(longer, text+" "+word, text+"-"+word)
			}
			if length == 1 {
				longer = append(longer, word)
			}
		}
		texts = longer
		for _, text := range texts {
			if checkReading(t, grammar, text) {
				read++
			}
		}
	}
	// 28 names have one word; 72 more have a -, 9 hundred and 27 thousand behind a word;
	// 72 have a - and thousand, 9 hundred thousand, 243 one word behind hundred and 729 one behind thousand.
	if read != 28+72+9+27+72+9+243+729 {
		t.Errorf("%d texts are read", read)
	}
}

// TestChangedNames leaves out a word, or lays another one over it or beside it, and does the same with single signs.
func TestChangedNames(t *testing.T) {
	grammar := grammarOfNames()
	read, other := 0, 0
	check := func(text string) {
		if checkReading(t, grammar, text) {
			read++
		} else {
			other++
		}
	}
	for _, n := range []int{0, 4, 13, 20, 21, 99, 100, 101, 110, 342, 1000, 1001, 20000, 100000, 120021, 373373, 801000, 999999} {
		words := strings.Split(plainName(n), " ")
		for at := range len(words) + 1 {
			for _, word := range append(strings.Fields(smallNames+" "+tensNames), "twenty-one", "hundred", "thousand", "and", "", "Four") {
				check(strings.Join(slices.Insert(slices.Clone(words), at, word), " "))
				if at < len(words) {
					check(strings.Join(slices.Replace(slices.Clone(words), at, at+1, word), " "))
				}
			}
			if at < len(words) {
				check(strings.Join(slices.Delete(slices.Clone(words), at, at+1), " "))
			}
			check(strings.Join(slices.Concat(words[at:], words[:at]), " "))
		}
		for at := range len(plainName(n)) {
			before, behind := plainName(n)[:at], plainName(n)[at+1:]
			check(before + behind)
			check(before)
			for _, sign := range []string{" ", "-", "e", "s", "y", "N", "\x00", "\xff"} {
				check(before + sign + behind)
				check(before + sign + plainName(n)[at:])
			}
		}
	}
	if read < 500 || other < 5000 {
		t.Errorf("%d texts are read, %d are not", read, other)
	}
}

// checkNew writes over all the room of an answer: neither one that is there already nor a later one changes.
func checkNew[T comparable](t *testing.T, name string, call func() ([]T, bool), other T) {
	t.Helper()
	first, _ := call()
	second, _ := call()
	want := slices.Clone(first)
	room := first[:cap(first)]
	for at := range room {
		room[at] = other
	}
	if third, ok := call(); !ok || len(want) == 0 || !slices.Equal(second, want) || !slices.Equal(third, want) {
		t.Errorf("%s shares memory: %v, then %v, %v, want %v", name, second, third, ok, want)
	}
}

func TestAnswersOfChapter8ShareNoMemory(t *testing.T) {
	for _, n := range []int{0, 4, 20, 21, 100, 323, 1999, 2000, 101101, 373373, 999999} {
		checkNew(t, "WordsOfName", func() ([]string, bool) { return impl.WordsOfName(n) }, "nothing")
		checkNew(t, "ChainOf", func() ([]int, bool) { return impl.ChainOf(n) }, 8)
		checkNew(t, "WithLetters", func() ([]int, bool) { return impl.WithLetters(3+n%9, 2000) }, 8)
	}
	for n := range 2000 {
		if got := answer(impl.NameOf(n)); got != some(plainName(n)) {
			t.Errorf("NameOf %d told something else behind other answers: %v", n, got)
		}
	}
}

// TestNamesAreToldTheSameAgain asks at the same time, and again: what one call tells is none of the others' business.
func TestNamesAreToldTheSameAgain(t *testing.T) {
	replies := make(chan []any)
	numbers := []int{-1, 0, 4, 13, 100, 342, 1373, 2000, 2001, 373373, 999999, 1000000}
	for _, n := range numbers {
		go func() {
			results := []any{n}
			for _, c := range nameCalls() {
				results = append(results, c.call(n)...)
			}
			replies <- results
		}()
	}
	for range numbers {
		got := <-replies
		want := []any{got[0]}
		for _, c := range nameCalls() {
			want = append(want, c.call(got[0].(int))...)
		}
		if !sameTexts(got, want) {
			t.Errorf("calls with %v: %v, want %v", got[0], got, want)
		}
	}
}
