package tests

import (
	"regexp"
	"slices"
	"strconv"
	"strings"
	"sync"
	"testing"

	"loop.example/g01240/impl"
)

// withSaid is a word, and what is said of it.
type withSaid struct{ word, said string }

// tableSize is the length of words and their greatest digit.
type tableSize struct{ length, digits int }

// puzzleWords holds all words that may be solutions, in order.
var puzzleWords = sync.OnceValue(func() map[tableSize][]withSaid {
	table := map[tableSize][]withSaid{}
	for length := 1; length <= 8; length++ {
		for digits := 1; digits <= 4; digits++ {
			size := tableSize{length, digits}
			for _, w := range allTexts(length, digits) {
				table[size] = append(table[size], withSaid{w, plainSay(w, false).text})
			}
		}
	}
	return table
})

// puzzle is that of a text which is one of three parts; the parts themselves may be wrong.
func puzzle(text string) impl.Puzzle {
	parts := strings.Split(text, ":")
	digits, _ := strconv.Atoi(parts[2])
	return impl.Puzzle{Word: parts[0], Said: parts[1], Digits: digits}
}

func textOf(p impl.Puzzle) string {
	return p.Word + ":" + p.Said + ":" + strconv.Itoa(p.Digits)
}

// puzzled is the answer of a call that tells a puzzle, as a text, or that there is none.
func puzzled(p impl.Puzzle, ok bool) told {
	if p == (impl.Puzzle{}) {
		return told{"", ok}
	}
	return told{textOf(p), ok}
}

var grammarOfPuzzles = regexp.MustCompile(`\A([.1]{1,8}:([.1-9]{2}){1,8}:1|[.12]{1,8}:([.1-9]{2}){1,8}:2|[.1-3]{1,8}:([.1-9]{2}){1,8}:3|[.1-4]{1,8}:([.1-9]{2}){1,8}:4)\z`)

func plainIsPuzzle(text string) bool {
	return grammarOfPuzzles.MatchString(text) && strings.LastIndex(text, ":") <= 3*strings.Index(text, ":")+1
}

// plainLike reports whether a text has the digits of another one that has gaps.
func plainLike(gaps string, text string) bool {
	if len(gaps) != len(text) {
		return false
	}
	for at := range len(text) {
		if gaps[at] != '.' && gaps[at] != text[at] {
			return false
		}
	}
	return true
}

// plainSolutions looks through all words.
func plainSolutions(p impl.Puzzle) []string {
	solutions := []string{}
	for _, w := range puzzleWords()[tableSize{len(p.Word), p.Digits}] {
		if plainLike(p.Word, w.word) && plainLike(p.Said, w.said) {
			solutions = append(solutions, w.word)
		}
	}
	return solutions
}

// signTexts returns all texts of so many signs.
func signTexts(length int, signs string) []string {
	texts := []string{""}
	for range length {
		longer := []string{}
		for _, text := range texts {
			for at := range len(signs) {
				longer = append(longer, text+signs[at:at+1])
			}
		}
		texts = longer
	}
	return texts
}

// smallPuzzles holds all puzzles with one sign in Word, and those with two whose Said has no digit greater than 3.
func smallPuzzles() []impl.Puzzle {
	puzzles := []impl.Puzzle{}
	add := func(words []string, said []string, digits int) {
		for _, word := range words {
			for _, text := range said {
				puzzles = append(puzzles, impl.Puzzle{Word: word, Said: text, Digits: digits})
			}
		}
	}
	for digits := 1; digits <= 4; digits++ {
		signs := ".1234"[:digits+1]
		add(signTexts(1, signs), signTexts(2, ".123456789"), digits)
		add(signTexts(2, signs), signTexts(2, ".123"), digits)
		add(signTexts(2, signs), signTexts(4, ".123"), digits)
	}
	return puzzles
}

// mixedPuzzles holds puzzles of all sizes without order: some of a word and what is said of it, some of any signs.
func mixedPuzzles() []impl.Puzzle {
	mixed := uint32(5)
	next := func(below int) int {
		mixed = mixed*1664525 + 1013904223
		return int(mixed>>12) % below
	}
	opened := func(text string, part int) string {
		signs := []byte(text)
		for at := range signs {
			if next(8) < part {
				signs[at] = '.'
			}
		}
		return string(signs)
	}
	text := func(length int, digits int) string {
		signs := []byte{}
		for range length {
			signs = append(signs, byte('1'+next(digits)))
		}
		return string(signs)
	}
	puzzles := []impl.Puzzle{}
	for round := range 80 {
		for length := 1; length <= 8; length++ {
			digits := 1 + next(4)
			w := text(length, digits)
			word, said := opened(w, round%9), opened(plainSay(w, false).text, next(9))
			puzzles = append(puzzles, impl.Puzzle{Word: word, Said: said, Digits: digits})
			other := opened(text(2+2*next(length), 4), 6)
			puzzles = append(puzzles, impl.Puzzle{Word: opened(text(length, digits), 7), Said: other, Digits: digits})
		}
	}
	return puzzles
}

// Puzzles in which a bound is met, or in which something special is so.
const boundPuzzles = ".:..:1 .:..:4 1:11:1 4:14:4 4:..:4 .:14:4 1:12:4 .:19:4 ........:..:1 ........:..:4 ........:................:4 ........:................:1 " +
	"11111111:81:1 ........:81:1 44444444:..:4 12341234:1112131411121314:4 12341234:1112131411121314:4 12121212:1112111211121112:2 ........:9...............:4 " +
	"...:21..:2 ..:....:3 112:2112:2 112:....:2 ...:2112:2 112:1221:2 ...:..12:2 ....:21..21:2 .1.:......:2 1..:2.:2 ...:....:2 " +
	"........:.42......3:4 ..2...1:......1...:4 2.......:......2..1:4 ..3..2..:..2.......:4 ........:....:2 .......:......:3 ........:..............91:4"

// knownPuzzles holds puzzles of all kinds.
func knownPuzzles() []impl.Puzzle {
	puzzles := append(smallPuzzles(), mixedPuzzles()...)
	for text := range strings.FieldsSeq(boundPuzzles) {
		puzzles = append(puzzles, puzzle(text))
	}
	return puzzles
}

func TestConstantsOfChapter9(t *testing.T) {
	if impl.MaxSigns != 8 || impl.MaxSolutions != 200 {
		t.Errorf("MaxSigns is %d, MaxSolutions is %d", impl.MaxSigns, impl.MaxSolutions)
	}
}

func TestPuzzlesAreKnown(t *testing.T) {
	for _, p := range knownPuzzles() {
		if !impl.IsPuzzle(p) || !plainIsPuzzle(textOf(p)) {
			t.Errorf("%v is a puzzle", p)
		}
	}
}

func TestGapsAreCounted(t *testing.T) {
	for _, c := range []struct {
		text       string
		word, said int
	}{
		{"...:21..:2", 3, 2}, {"..:....:3", 2, 4}, {"112:2112:2", 0, 0}, {"112:....:2", 0, 4}, {"...:2112:2", 3, 0}, {"1:11:1", 0, 0}, {".:..:4", 1, 2},
		{"........:................:4", 8, 16}, {"12341234:1112131411121314:4", 0, 0}, {".1.:...1.2:3", 2, 4}, {"1..1:2.:1", 2, 1},
	} {
		if got := both(impl.GapsOf(puzzle(c.text))); got != (pair{c.word, c.said, true}) {
			t.Errorf("gaps of %s: %v", c.text, got)
		}
	}
	for _, p := range knownPuzzles() {
		want := pair{len(p.Word) - len(strings.ReplaceAll(p.Word, ".", "")), len(p.Said) - len(strings.ReplaceAll(p.Said, ".", "")), true}
		if got := both(impl.GapsOf(p)); got != want {
			t.Errorf("gaps of %v: %v, want %v", p, got, want)
		}
	}
}

func TestKnownSolutionsAreSome(t *testing.T) {
	for _, c := range []struct{ puzzle, is, none string }{
		{"...:21..:2", "112", "111 121 122 211 212 221 222 113 114 119 1 11 12 1122 1112 11211 112112112 2112"},
		{"..:....:3", "12 13 21 23 31 32", "11 22 33 14 41 24 42 44 15 91 1 2 123 121 1212"},
		{"112:2112:2", "112", "111 113 122 212 1 11 12 1112 1122 1121"},
		{"112:1221:2", "", "112 122 221 121 111 1 11"},
		{"...:2112:2", "112", "122 111 221 211 113"},
		{"112:....:2", "112", "111 121 122 113 11 1122"},
		{"112:..:2", "", "112 111 222 1 2"},
		{"112:......:2", "", "112 121 212"},
		{".1.:......:2", "212", "121 112 211 111 213 313 412 12 21"},
		{".:..:4", "1 2 3 4", "5 9 11 12 44"},
		{".:14:4", "4", "1 2 3 14 44"},
		{".:..:1", "1", "2 3 4 9 11 111111111"},
		{".:2.:4", "", "1 2 11 22"},
		{"........:..:2", "11111111 22222222", "33333333 1111111 2222222 111111111 222222222 11111112 21111111 12121212"},
		{"........:................:2", "12121212 21212121", "12121211 11212121 13131313 1212121 121212121 11111111 11112222"},
		{"........:8.:4", "11111111 22222222 33333333 44444444", "55555555 99999999 1111111 111111111 11112222"},
	} {
		for w := range strings.FieldsSeq(c.is) {
			if got := report(impl.IsSolution(puzzle(c.puzzle), w)); got != (verdict{true, true}) {
				t.Errorf("IsSolution of %s, %s: %v", c.puzzle, w, got)
			}
		}
		for w := range strings.FieldsSeq(c.none) {
			if got := report(impl.IsSolution(puzzle(c.puzzle), w)); got != (verdict{false, true}) {
				t.Errorf("IsSolution of %s, %s: %v", c.puzzle, w, got)
			}
		}
	}
}

// TestLongWordsAreNoSolutions asks for words of any length, speakable or not.
func TestLongWordsAreNoSolutions(t *testing.T) {
	for _, p := range []string{"...:21..:2", ".:..:4", "........:................:4", "........:..:1"} {
		for _, w := range sampleWords() {
			want := verdict{slices.Contains(plainSolutions(puzzle(p)), w), true}
			if got := report(impl.IsSolution(puzzle(p), w)); got != want {
				t.Errorf("IsSolution of %s, %s: %v, want %v", p, w, got, want)
			}
		}
	}
}

// TestAllShortWordsOfPuzzles asks for all words of up to three digits 1..5.
func TestAllShortWordsOfPuzzles(t *testing.T) {
	words := append(append(allTexts(1, 5), allTexts(2, 5)...), allTexts(3, 5)...)
	for at, p := range knownPuzzles() {
		if len(p.Word) > 3 || at%7 != 0 && len(p.Word) < 3 {
			continue
		}
		solutions := plainSolutions(p)
		for _, w := range words {
			want := verdict{slices.Contains(solutions, w), true}
			if got := report(impl.IsSolution(p, w)); got != want {
				t.Errorf("IsSolution of %v, %s: %v, want %v", p, w, got, want)
			}
		}
	}
}

func TestTextsOfPuzzles(t *testing.T) {
	for _, c := range []struct {
		p    impl.Puzzle
		text string
	}{
		{impl.Puzzle{Word: "...", Said: "21..", Digits: 2}, "...:21..:2"},
		{impl.Puzzle{Word: "1", Said: "11", Digits: 1}, "1:11:1"},
		{impl.Puzzle{Word: ".", Said: "..", Digits: 4}, ".:..:4"},
		{impl.Puzzle{Word: "1234....", Said: "9.8.7.6.5.4.3.2.", Digits: 4}, "1234....:9.8.7.6.5.4.3.2.:4"},
		{impl.Puzzle{Word: "3.", Said: ".9", Digits: 3}, "3.:.9:3"},
	} {
		if got := answer(impl.PuzzleText(c.p)); got != some(c.text) {
			t.Errorf("text of %v: %v", c.p, got)
		}
		if p, ok := impl.ParsePuzzle(c.text); !ok || p != c.p {
			t.Errorf("ParsePuzzle of %s: %v, %v", c.text, p, ok)
		}
	}
	for _, p := range knownPuzzles() {
		text, ok := impl.PuzzleText(p)
		if again, read := impl.ParsePuzzle(text); !ok || text != textOf(p) || !read || again != p {
			t.Errorf("text of %v: %q, %v, read %v, %v", p, text, ok, again, read)
		}
	}
}
