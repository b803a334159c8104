package tests

import (
	"strings"
	"testing"

	"loop.example/g01240/impl"
)

// overlaid is a text with another sign at a place.
func overlaid(text string, at int, sign string) string {
	return text[:at] + sign + text[at+1:]
}

// plainHarder opens digits of Word and then of Said, as long as all words tell that one alone is a solution.
func plainHarder(p impl.Puzzle) told {
	if len(plainSolutions(p)) != 1 {
		return none
	}
	for at := range len(p.Word) {
		if opened := (impl.Puzzle{Word: overlaid(p.Word, at, "."), Said: p.Said, Digits: p.Digits}); len(plainSolutions(opened)) == 1 {
			p = opened
		}
	}
	for at := range len(p.Said) {
		if opened := (impl.Puzzle{Word: p.Word, Said: overlaid(p.Said, at, "."), Digits: p.Digits}); len(plainSolutions(opened)) == 1 {
			p = opened
		}
	}
	return some(textOf(p))
}

// plainMade takes all numbers first, and lays gaps over the word and what is said of it as one text.
func plainMade(w string, digits int, seed int) string {
	text := w + plainSay(w, false).text
	numbers := []int{seed}
	for range len(text) {
		numbers = append(numbers, (numbers[len(numbers)-1]*171+3203)%10009)
	}
	for at := range len(text) {
		if numbers[at+1]%3 != 0 {
			text = overlaid(text, at, ".")
		}
	}
	return textOf(impl.Puzzle{Word: text[:len(w)], Said: text[len(w):], Digits: digits})
}

func TestGapsAreFilled(t *testing.T) {
	for _, c := range []struct {
		puzzle    string
		at, digit int
		want      string
	}{
		{"...:21..:2", 0, 1, "1..:21..:2"}, {"...:21..:2", 2, 1, "..1:21..:2"}, {"...:21..:2", 1, 2, ".2.:21..:2"},
		{"...:21..:2", 0, 3, ""}, {"...:21..:2", 0, 0, ""}, {"...:21..:2", 3, 1, ""}, {"...:21..:2", -1, 1, ""},
		{".:..:4", 0, 4, "4:..:4"}, {".:..:4", 0, 5, ""}, {".:13:4", 0, 2, "2:13:4"}, {"1:11:1", 0, 1, ""},
		{"12.4:......:4", 2, 4, "1244:......:4"}, {"12.4:......:4", 0, 1, ""}, {"12.4:......:4", 3, 4, ""},
		{"........:..:1", 7, 1, ".......1:..:1"}, {"........:..:1", 7, 2, ""},
	} {
		got := puzzled(impl.FillGap(puzzle(c.puzzle), c.at, c.digit))
		if got != (told{c.want, c.want != ""}) {
			t.Errorf("FillGap of %s, %d, %d: %v, want %s", c.puzzle, c.at, c.digit, got, c.want)
		}
	}
}

// TestGapsMayBeFilledWrong fills in digits that leave no solution.
func TestGapsMayBeFilledWrong(t *testing.T) {
	for _, c := range []struct {
		puzzle    string
		at, digit int
	}{
		{"...:21..:2", 0, 2}, {"...:21..:2", 1, 2}, {"...:21..:2", 2, 1}, {".:13:4", 0, 1}, {".1:..:3", 0, 3},
	} {
		filled, ok := impl.FillGap(puzzle(c.puzzle), c.at, c.digit)
		if n := count(impl.CountSolutions(filled)); !ok || n != (counted{0, true}) {
			t.Errorf("FillGap of %s, %d, %d: %v, %v, with %v solutions", c.puzzle, c.at, c.digit, filled, ok, n)
		}
	}
}

func TestDigitsAreOpened(t *testing.T) {
	for _, c := range []struct {
		puzzle     string
		at         int
		word, said string
	}{
		{"112:2112:2", 0, ".12:2112:2", "112:.112:2"}, {"112:2112:2", 2, "11.:2112:2", "112:21.2:2"}, {"112:2112:2", 3, "", "112:211.:2"},
		{"112:2112:2", 4, "", ""}, {"112:2112:2", -1, "", ""}, {"...:21..:2", 0, "", "...:.1..:2"}, {"...:21..:2", 2, "", ""},
		{"1:11:1", 0, ".:11:1", "1:.1:1"}, {"1:11:1", 1, "", "1:1.:1"}, {".:..:1", 0, "", ""}, {".1:.9:3", 1, "..:.9:3", ".1:..:3"},
		{"12341234:1112131411121314:4", 7, "1234123.:1112131411121314:4", "12341234:1112131.11121314:4"},
		{"12341234:1112131411121314:4", 15, "", "12341234:111213141112131.:4"}, {"12341234:1112131411121314:4", 16, "", ""},
	} {
		p := puzzle(c.puzzle)
		if got := puzzled(impl.OpenPlace(p, c.at)); got != (told{c.word, c.word != ""}) {
			t.Errorf("OpenPlace of %s, %d: %v, want %s", c.puzzle, c.at, got, c.word)
		}
		if got := puzzled(impl.OpenSaid(p, c.at)); got != (told{c.said, c.said != ""}) {
			t.Errorf("OpenSaid of %s, %d: %v, want %s", c.puzzle, c.at, got, c.said)
		}
	}
}

// TestAllPlacesAreFilledAndOpened goes through all places and digits, and back again.
func TestAllPlacesAreFilledAndOpened(t *testing.T) {
	for _, p := range knownPuzzles() {
		for at := -1; at <= len(p.Word); at++ {
			inside := 0 <= at && at < len(p.Word)
			want := none
			if inside && p.Word[at] != '.' {
				want = some(textOf(impl.Puzzle{Word: overlaid(p.Word, at, "."), Said: p.Said, Digits: p.Digits}))
			}
			if got := puzzled(impl.OpenPlace(p, at)); got != want {
				t.Errorf("OpenPlace of %v, %d: %v, want %v", p, at, got, want)
			}
			for digit := -1; digit <= 6; digit++ {
				filled, ok := impl.FillGap(p, at, digit)
				if !inside || p.Word[at] != '.' || digit < 1 || digit > p.Digits {
					if ok || filled != (impl.Puzzle{}) {
						t.Errorf("FillGap of %v, %d, %d: %v, %v", p, at, digit, filled, ok)
					}
					continue
				}
				if again := puzzled(impl.OpenPlace(filled, at)); !ok || filled.Word[at] != byte('0'+digit) || again != some(textOf(p)) {
					t.Errorf("FillGap of %v, %d, %d: %v, %v, opened %v", p, at, digit, filled, ok, again)
				}
			}
		}
		for at := -1; at <= len(p.Said); at++ {
			want := none
			if 0 <= at && at < len(p.Said) && p.Said[at] != '.' {
				want = some(textOf(impl.Puzzle{Word: p.Word, Said: overlaid(p.Said, at, "."), Digits: p.Digits}))
			}
			if got := puzzled(impl.OpenSaid(p, at)); got != want {
				t.Errorf("OpenSaid of %v, %d: %v, want %v", p, at, got, want)
			}
		}
	}
}

func TestKnownPuzzlesAreMadeHarder(t *testing.T) {
	for _, c := range []struct{ puzzle, want string }{
		{"112:2112:2", "...:..12:2"}, {"...:2112:2", "...:..12:2"}, {"112:....:2", ".12:....:2"},
		// These cannot be made harder.
		{"...:..12:2", "...:..12:2"}, {".12:....:2", ".12:....:2"}, {"11.:....:2", "11.:....:2"}, {".:..:1", ".:..:1"}, {"4:..:4", "4:..:4"}, {".:.4:4", ".:.4:4"}, {".1:....:2", ".1:....:2"},
		{"1:11:1", ".:..:1"}, {"4:14:4", ".:.4:4"}, {"11:21:1", "..:..:1"}, {"11111111:81:1", "........:..:1"}, {"21:1211:2", "..:...1:2"}, {"21:....:2", ".1:....:2"},
		{"44444444:84:4", "........:.4:4"}, {"12121212:1112111211121112:2", "........:...............2:2"}, {"12121212:................:2", ".......2:................:2"},
		// There is no solution, or more than one.
		{"112:1221:2", ""}, {"1:12:4", ""}, {"...:....:2", ""}, {"..:....:3", ""}, {".:..:4", ""}, {"........:................:4", ""}, {"..3..2..:..2.......:4", ""},
	} {
		if got := puzzled(impl.HarderPuzzle(puzzle(c.puzzle))); got != (told{c.want, c.want != ""}) {
			t.Errorf("HarderPuzzle of %s: %v, want %s", c.puzzle, got, c.want)
		}
	}
}

// TestAllPuzzlesAreMadeHarder holds harder puzzles against all words that there are, and makes them harder once more.
func TestAllPuzzlesAreMadeHarder(t *testing.T) {
	harder, same := 0, 0
	for at, p := range knownPuzzles() {
		if len(p.Word) == 2 && at%5 != 0 {
			continue
		}
		got, want := puzzled(impl.HarderPuzzle(p)), plainHarder(p)
		if got != want {
			t.Errorf("HarderPuzzle of %v: %v, want %v", p, got, want)
		}
		if !got.ok {
			continue
		}
		if again := puzzled(impl.HarderPuzzle(puzzle(got.text))); again != got {
			t.Errorf("HarderPuzzle of %s: %v", got.text, again)
		}
		if got.text == textOf(p) {
			same++
		} else {
			harder++
		}
	}
	if harder < 100 || same < 20 {
		t.Errorf("%d puzzles are made harder, %d are not", harder, same)
	}
}

func TestKnownPuzzlesAreMade(t *testing.T) {
	for _, c := range []struct {
		w            string
		digits, seed int
		want         string
	}{
		{"1", 1, 0, ".:..:1"}, {"1", 4, 9999, ".:..:4"}, {"1", 1, 100, "1:11:1"}, {"4", 4, 100, "4:14:4"}, {"112", 2, 0, "...:....:2"}, {"112", 2, 1, "...:2...:2"}, {"112", 3, 9999, "...:....:3"},
		{"12341234", 4, 0, "........:.1.21..41..213..:4"}, {"12341234", 4, 9999, "........:...2...41.1.....:4"}, {"12341234", 4, 3428, "........:................:4"},
		{"44444444", 4, 7, "....4...:.4:4"}, {"11223344", 4, 1234, "..2...4.:...2..2.:4"}, {"12121212", 2, 5000, "...2121.:....1...1....1..:2"},
	} {
		if got := puzzled(impl.MakePuzzle(c.w, c.digits, c.seed)); got != some(c.want) {
			t.Errorf("MakePuzzle of %s, %d, %d: %v, want %s", c.w, c.digits, c.seed, got, c.want)
		}
	}
}

// TestPuzzlesAreMadeFromAllSeeds makes puzzles of words of all lengths: the words are solutions of them.
func TestPuzzlesAreMadeFromAllSeeds(t *testing.T) {
	words := strings.Fields("1 4 12 33 112 3421 11211 444444 1234321 12341234 11111111 44443333 12121212")
	check := func(w string, digits int, seed int) {
		p, ok := impl.MakePuzzle(w, digits, seed)
		if !ok || textOf(p) != plainMade(w, digits, seed) {
			t.Errorf("MakePuzzle of %s, %d, %d: %v, %v, want %s", w, digits, seed, p, ok, plainMade(w, digits, seed))
		}
		if is := report(impl.IsSolution(p, w)); is != (verdict{true, true}) {
			t.Errorf("IsSolution of %v, %s: %v", p, w, is)
		}
	}
	for seed := range 10000 {
		check(words[seed%len(words)], 4, seed)
	}
	for _, seed := range []int{0, 1, 2, 5003, 9998, 9999} {
		for length := 1; length <= 4; length++ {
			for _, w := range allTexts(length, 3) {
				check(w, 3, seed)
				check(w, 4, seed)
			}
		}
		for _, w := range words {
			check(w, 4, seed)
		}
		check("11111111", 1, seed)
		check("12212112", 2, seed)
	}
}
