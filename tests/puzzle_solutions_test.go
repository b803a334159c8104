package tests

import (
	"strconv"
	"strings"
	"testing"

	"loop.example/g01240/impl"
)

// solved is what all calls tell that look for solutions.
type solved struct {
	solutions         listed
	number            counted
	first, word, said told
	hint              pair
}

func solvedOf(p impl.Puzzle) solved {
	return solved{
		list(impl.Solutions(p)), count(impl.CountSolutions(p)),
		answer(impl.FirstSolution(p)), answer(impl.SureWord(p)), answer(impl.SureSaid(p)),
		both(impl.HintOf(p)),
	}
}

// plainSure holds the signs that stand in all texts.
func plainSure(texts []string) string {
	sure := ""
	for at := range len(texts[0]) {
		signs := map[byte]bool{}
		for _, text := range texts {
			signs[text[at]] = true
		}
		if len(signs) == 1 {
			sure += texts[0][at : at+1]
		} else {
			sure += "."
		}
	}
	return sure
}

func plainSolved(p impl.Puzzle) solved {
	solutions := plainSolutions(p)
	if len(solutions) > 200 {
		return solved{}
	}
	want := solved{solutions: someList(strings.Join(solutions, " ")), number: counted{len(solutions), true}}
	if len(solutions) == 0 {
		return want
	}
	said := []string{}
	for _, w := range solutions {
		said = append(said, plainSay(w, false).text)
	}
	want.first, want.word, want.said = some(solutions[0]), some(plainSure(solutions)), some(plainSure(said))
	for at := range len(p.Word) {
		if digit, err := strconv.Atoi(want.word.text[at : at+1]); err == nil && p.Word[at] == '.' {
			want.hint = pair{at, digit, true}
			break
		}
	}
	return want
}

func TestKnownPuzzlesAreSolved(t *testing.T) {
	for _, c := range []struct{ puzzle, solutions, word, said, hint string }{
		{"...:21..:2", "112", "112", "2112", "0 1"},
		{"..:....:3", "12 13 21 23 31 32", "..", "1.1.", ""},
		{"112:2112:2", "112", "112", "2112", ""},
		{"112:....:2", "112", "112", "2112", ""},
		{"...:2112:2", "112", "112", "2112", "0 1"},
		{".12:2112:2", "112", "112", "2112", "0 1"},
		{"1.2:....:2", "112 122", "1.2", ".1.2", ""},
		{"1..:....:2", "112 122", "1.2", ".1.2", "2 2"},
		{"1..:2.:2", "", "", "", ""},
		{"112:1221:2", "", "", "", ""},
		{".:..:1", "1", "1", "11", "0 1"},
		{".:..:4", "1 2 3 4", ".", "1.", ""},
		{".:.3:4", "3", "3", "13", "0 3"},
		{".:.5:4", "", "", "", ""},
		{"4:..:4", "4", "4", "14", ""},
		{"..:....:1", "", "", "", ""},
		{"...:....:2", "112 122 211 221", "...", "....", ""},
		{".1.:......:2", "212", "212", "121112", "0 2"},
		{".1.:......:3", "212 213 312 313", ".1.", "1.111.", ""},
		{"....:21..21:2", "", "", "", ""},
		{"....:1.2.1.:2", "1221 2112", "....", "1.2.1.", ""},
		{"...3:....11:4", "", "", "", ""},
		{"....:....11:3", "1121 1131 1221 1331 2231 2331 3221 3321", "...1", "....11", "3 1"},
		{"........:..:4", "11111111 22222222 33333333 44444444", "........", "8.", ""},
		{"........:................:2", "12121212 21212121", "........", "1.1.1.1.1.1.1.1.", ""},
		{"........:..............91:4", "", "", "", ""},
		{"....4...:..:4", "44444444", "44444444", "84", "0 4"},
		{"4444444.:..:4", "44444444", "44444444", "84", "7 4"},
		{"2222222.:....:2", "22222221", "22222221", "7211", "7 1"},
	} {
		want := solved{solutions: someList(c.solutions), number: counted{len(strings.Fields(c.solutions)), true}}
		if c.solutions != "" {
			want.first, want.word, want.said = some(strings.Fields(c.solutions)[0]), some(c.word), some(c.said)
		}
		if hint := fieldNumbers(c.hint); len(hint) == 2 {
			want.hint = pair{hint[0], hint[1], true}
		}
		if got := solvedOf(puzzle(c.puzzle)); got != want {
			t.Errorf("%s: %v, want %v", c.puzzle, got, want)
		}
	}
}

// TestAllPuzzlesAreSolved holds what is told of puzzles of all kinds against all words that there are.
func TestAllPuzzlesAreSolved(t *testing.T) {
	kinds := map[string]int{}
	for _, p := range knownPuzzles() {
		got, want := solvedOf(p), plainSolved(p)
		if got != want {
			t.Errorf("%v: %v, want %v", p, got, want)
		}
		switch {
		case !want.number.ok:
			kinds["too many"]++
		case want.number.number < 2:
			kinds[strconv.Itoa(want.number.number)]++
		case want.hint.ok:
			kinds["hint"]++
		default:
			kinds["no hint"]++
		}
	}
	for _, kind := range []string{"too many", "0", "1", "hint", "no hint"} {
		if kinds[kind] < 20 {
			t.Errorf("too few puzzles of a kind: %v", kinds)
		}
	}
}

// TestSolutionsHaveTheDigitsTold is the promise of the chapter: the digits of the word and of what is said.
func TestSolutionsHaveTheDigitsTold(t *testing.T) {
	for _, p := range knownPuzzles() {
		solutions, _ := impl.Solutions(p)
		for at, w := range solutions {
			said, _ := impl.SayWord(w)
			if !plainLike(p.Word, w) || !plainLike(p.Said, said) || strings.Trim(w, "1234"[:p.Digits]) != "" {
				t.Errorf("%v has not the solution %s, of which %s is said", p, w, said)
			}
			if at > 0 && solutions[at-1] >= w {
				t.Errorf("solutions of %v: %s comes before %s", p, solutions[at-1], w)
			}
			if got := report(impl.IsSolution(p, w)); got != (verdict{true, true}) {
				t.Errorf("IsSolution of %v, %s: %v", p, w, got)
			}
		}
	}
}

func TestPuzzlesWithJustAsManySolutionsAsThereMayBe(t *testing.T) {
	for _, c := range []struct {
		puzzle string
		number int
	}{
		{"........:.42......3:4", 200}, {"..2...1:......1...:4", 200}, {"2.......:......2..1:4", 200}, {".3.1....:..........:3", 200},
		{"..3..2..:..2.......:4", 201}, {"........:................:4", 4 * 3 * 3 * 3 * 3 * 3 * 3 * 3}, {"........:........:3", 35 * 3 * 2 * 2 * 2},
	} {
		p := puzzle(c.puzzle)
		if solutions := plainSolutions(p); len(solutions) != c.number {
			t.Fatalf("%s has %d solutions", c.puzzle, len(solutions))
		}
		got := solvedOf(p)
		if got.solutions.ok != (c.number <= 200) || got != plainSolved(p) {
			t.Errorf("%s: %v, want %v", c.puzzle, got, plainSolved(p))
		}
	}
}

// TestManySolutionsAreSomeStill asks for single words where there are too many solutions to look for.
func TestManySolutionsAreSomeStill(t *testing.T) {
	p := puzzle("........:................:4")
	for w, want := range map[string]bool{"12341234": true, "43214321": true, "12341233": false, "11234123": false, "1234123": false, "12341235": false} {
		if got := report(impl.IsSolution(p, w)); got != (verdict{want, true}) {
			t.Errorf("IsSolution of %s: %v, want %v", w, got, want)
		}
	}
	if got := both(impl.GapsOf(p)); got != (pair{8, 16, true}) {
		t.Errorf("gaps: %v", got)
	}
}
