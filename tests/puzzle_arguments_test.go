package tests

import (
	"slices"
	"strconv"
	"strings"
	"testing"
	"unsafe"

	"loop.example/g01240/impl"
)

// puzzleCalls holds each function of chapter 9 that takes a puzzle; what else they take is valid.
func puzzleCalls(p impl.Puzzle) map[string][]any {
	all := func(results ...any) []any { return results }
	return map[string][]any{
		"IsPuzzle":       all(impl.IsPuzzle(p)),
		"GapsOf":         all(impl.GapsOf(p)),
		"IsSolution":     all(impl.IsSolution(p, "1")),
		"IsSolution 112": all(impl.IsSolution(p, "112")),
		"Solutions":      all(impl.Solutions(p)),
		"CountSolutions": all(impl.CountSolutions(p)),
		"FirstSolution":  all(impl.FirstSolution(p)),
		"SureWord":       all(impl.SureWord(p)),
		"SureSaid":       all(impl.SureSaid(p)),
		"HintOf":         all(impl.HintOf(p)),
		"FillGap":        all(impl.FillGap(p, 0, 1)),
		"FillGap 2":      all(impl.FillGap(p, 1, 2)),
		"OpenPlace":      all(impl.OpenPlace(p, 0)),
		"OpenPlace 2":    all(impl.OpenPlace(p, 2)),
		"OpenSaid":       all(impl.OpenSaid(p, 0)),
		"OpenSaid 3":     all(impl.OpenSaid(p, 3)),
		"HarderPuzzle":   all(impl.HarderPuzzle(p)),
		"PuzzleText":     all(impl.PuzzleText(p)),
	}
}

// puzzleNumberCalls holds each function of chapter 9 that takes a bounded number, for puzzles of gaps alone or of none.
func puzzleNumberCalls() []boundedCall {
	all := func(results ...any) []any { return results }
	gaps, full := puzzle("........:......:3"), puzzle("12333:111233:3")
	return []boundedCall{
		{"FillGap", 0, 7, func(n int) []any { return all(impl.FillGap(gaps, n, 1)) }, false},
		{"FillGap with", 1, 3, func(n int) []any { return all(impl.FillGap(gaps, 7, n)) }, false},
		{"OpenPlace", 0, 4, func(n int) []any { return all(impl.OpenPlace(full, n)) }, false},
		{"OpenSaid", 0, 5, func(n int) []any { return all(impl.OpenSaid(full, n)) }, false},
		{"MakePuzzle 1", 1, 4, func(n int) []any { return all(impl.MakePuzzle("1", n, 0)) }, false},
		{"MakePuzzle 13", 3, 4, func(n int) []any { return all(impl.MakePuzzle("13", n, 9999)) }, false},
		{"MakePuzzle 4", 4, 4, func(n int) []any { return all(impl.MakePuzzle("44444444", n, 5)) }, false},
		{"MakePuzzle from", 0, 9999, func(n int) []any { return all(impl.MakePuzzle("12341234", 4, n)) }, false},
	}
}

// noPuzzles holds puzzles of which one part is wrong, and some that are wrong in all.
func noPuzzles() []impl.Puzzle {
	puzzles := []impl.Puzzle{{}, {Word: "0", Said: "0", Digits: 0}, {Word: strings.Repeat("x", 9), Said: "x", Digits: 5}}
	for _, digits := range append(slices.Clone(extremeNumbers), -2, 5, 6, 8, 1<<32+1, 1<<32+4, 1<<40+2, -1<<32+3, 257, 260) {
		if digits < 1 || digits > 4 {
			puzzles = append(puzzles, impl.Puzzle{Word: "1", Said: "11", Digits: digits}, impl.Puzzle{Word: "...", Said: "....", Digits: digits}, impl.Puzzle{Word: "112", Said: "2112", Digits: digits})
		}
	}
	for _, text := range []string{
		":..:2", "::2", ":....:4", ".........:..:2", ".........:................:4", "121212121:..:2", "111111111:91:1", strings.Repeat(".", 401) + ":..:4", strings.Repeat("1", 5000) + ":11:1",
		".::1", "...::2", "........::4", ".:.:1", "...:.:2", "...:...:2", "112:21121:2", "112:211:2", ".:...:1", "........:...............:4",
		".:....:1", "1:1111:2", "..:......:2", "12:111212:2", "...:........:4", "........:..................:4", "........:.................:4", ".:" + strings.Repeat(".", 400) + ":4", "112:" + strings.Repeat("2112", 2000) + ":2",
		"2:..:1", ".2:..:1", "1.2:..:1", "3:..:2", "123:......:2", "4:..:3", "...4:..:3", "5:..:4", ".......5:..:4", "9:..:4", "1231234.:1111:2",
		"...:12:2:2", "112:21 12:2", "112 :2112:2", " 112:2112:2",
	} {
		parts := strings.Split(text, ":")
		digits, _ := strconv.Atoi(parts[len(parts)-1])
		puzzles = append(puzzles, impl.Puzzle{Word: parts[0], Said: strings.Join(parts[1:len(parts)-1], ":"), Digits: digits})
	}
	for sign := range 256 {
		wrong := string([]byte{byte(sign)})
		if sign != '.' && (sign < '1' || sign > '4') {
			puzzles = append(puzzles, impl.Puzzle{Word: wrong, Said: "..", Digits: 4}, impl.Puzzle{Word: "1" + wrong + ".", Said: "....", Digits: 4}, impl.Puzzle{Word: "......." + wrong, Said: "..", Digits: 4})
		}
		if sign != '.' && (sign < '1' || sign > '9') {
			puzzles = append(puzzles, impl.Puzzle{Word: ".", Said: wrong + ".", Digits: 4}, impl.Puzzle{Word: "112", Said: "2" + wrong + "12", Digits: 2}, impl.Puzzle{Word: "........", Said: "..............." + wrong, Digits: 4})
		}
	}
	for _, wrong := range []string{"ä", "１", "١", "。", "…"} {
		puzzles = append(puzzles, impl.Puzzle{Word: wrong, Said: "..", Digits: 4}, impl.Puzzle{Word: "......", Said: wrong, Digits: 4}, impl.Puzzle{Word: "......", Said: wrong + ".", Digits: 4})
	}
	return puzzles
}

func TestPuzzlesThatAreNoneGiveZero(t *testing.T) {
	for _, p := range noPuzzles() {
		for name, results := range puzzleCalls(p) {
			checkZero(t, name, p, results)
		}
		for _, at := range []int{least, -1, 0, 1, 3, 7, 15, greatest} {
			checkZero(t, "OpenPlace", p, []any{puzzled(impl.OpenPlace(p, at))})
			checkZero(t, "OpenSaid", p, []any{puzzled(impl.OpenSaid(p, at))})
			for _, digit := range []int{least, 0, 1, 2, 4, 5, 254, greatest} {
				checkZero(t, "FillGap", p, []any{puzzled(impl.FillGap(p, at, digit))})
			}
		}
		for _, text := range []string{"", "0", p.Word, p.Said, "12341234", "11111111", strings.Repeat("1", 401)} {
			checkZero(t, "IsSolution", p, []any{report(impl.IsSolution(p, text))})
		}
	}
}

func TestNumbersOfChapter9AreBounded(t *testing.T) {
	checkBounds(t, puzzleNumberCalls(), append(slices.Clone(extremeNumbers), -10000, -2, 3, 4, 5, 6, 7, 8, 15, 16, 254, 255, 260, 1000, 5000, 9998, 9999, 10000, 10008, 10009, 10010, 20000,
		1<<31, 1<<32+1, 1<<32+3, 1<<40+2, 1<<62, -1<<31, -1<<32+2))
}

func TestFailedCallsOfChapter9GiveZero(t *testing.T) {
	never := []string{"GapsOf", "IsSolution", "IsSolution 112", "PuzzleText"}
	for _, p := range knownPuzzles() {
		for name, results := range puzzleCalls(p) {
			if results[len(results)-1].(bool) {
				continue
			}
			checkZero(t, name, p, results)
			if slices.Contains(never, name) {
				t.Errorf("%s of %v fails", name, p)
			}
		}
	}
}

func TestTextsThatAreNoWordsAreNoSolutions(t *testing.T) {
	texts := append(noWords(), "...", "1.2", "11.", "012", "102", "112 ", " 112", "112\n", "one", "112:2112:2")
	for _, text := range texts {
		for _, p := range []string{"...:21..:2", ".:..:4", "112:2112:2", "........:..:1", "........:................:4"} {
			checkZero(t, "IsSolution", text, []any{report(impl.IsSolution(puzzle(p), text))})
		}
	}
}

func TestWordsOfWhichNoPuzzleIsMade(t *testing.T) {
	for _, text := range append(noWords(), "...", ".", "1.2", "0", "102", "111111111", "123412341", "444444444", "1234123412341234", strings.Repeat("1", 400), strings.Repeat("12", 200)) {
		for _, digits := range []int{0, 1, 2, 3, 4, 5, 9, greatest} {
			for _, seed := range []int{0, 100, 9999} {
				checkZero(t, "MakePuzzle", text, []any{puzzled(impl.MakePuzzle(text, digits, seed))})
			}
		}
	}
	for _, c := range []struct {
		w      string
		digits int
	}{
		{"2", 1}, {"12", 1}, {"11111112", 1}, {"3", 2}, {"21111113", 2}, {"4", 3}, {"12341234", 3}, {"5", 4}, {"12345", 4}, {"9", 4}, {"99999999", 4}, {"11111115", 4},
		{"1", 0}, {"1", -1}, {"1", 5}, {"5", 5}, {"9", 9}, {"1", least}, {"1", greatest}, {"1", 257}, {"1", 1<<32 + 1},
	} {
		for _, seed := range []int{0, 1, 5000, 9999} {
			checkZero(t, "MakePuzzle", c, []any{puzzled(impl.MakePuzzle(c.w, c.digits, seed))})
		}
	}
	for _, seed := range []int{-1, 10000, 10008, 10009, -9999, least, greatest, 1 << 32, 1<<32 + 1} {
		for _, w := range []string{"1", "112", "12341234"} {
			checkZero(t, "MakePuzzle", seed, []any{puzzled(impl.MakePuzzle(w, 4, seed))})
		}
	}
}

func TestTextsThatAreNoPuzzles(t *testing.T) {
	texts := []string{
		"", ":", "::", ":::", "::::", ".", "...", "112", "...:21..", "...:2", "...:21..2", "...21..2", ":...:21..:2", "...:21..:2:", "...:21..:2:2", "...:21..::2", "...::21..:2", "...:21..:", ":21..:2", "...::2", "::2",
		" ...:21..:2", "...:21..:2 ", "... :21..:2", "...: 21..:2", "...:21.. :2", "...:21..: 2", "...:2 1..:2", ". ..:21..:2", "...:21..:2\n", "\n...:21..:2", "...\n:21..:2", "...:21..:\t2",
		"...:21..:0", "...:21..:5", "...:21..:9", "...:21..:12", "...:21..:22", "...:21..:02", "...:21..:2.", "...:21..:+2", "...:21..:-2", "...:21..:2.0", "...:21..:two", "...:21..:.", "...:21..:a", "...:21..:２", "...:21..:\x02", "...:21..:\xff", "...:21..:\x00",
		"...:21.:2", "...:21...:2", "...:2:2", "...:21......:2", ".:....:1", "..:......:4", "........:..................:4", "........:.................:4", ".........:..:4", ".........:................:4",
		"..3:21..:2", "2:..:1", "5:..:4", "0:..:1", "..0:21..:2", "...:20..:2", "...:01..:2", "...:2a..:2", "a..:21..:2", "…:21..:2", "...:21…:2", "...;21..;2", "...,21..,2", "...：21..：2", "...|21..|2", "...:21..:2:....", "...\x00:21..:2",
		"112,2112,2", "2:112:2112", "21..:...:2", "?:??:1", "_:__:1", "1:1:11", "11:1:1", "11:1",
		strings.Repeat(".", 5000), strings.Repeat(":", 5000), strings.Repeat("...:21..:2", 500), strings.Repeat(".", 5000) + ":..:4", "........:" + strings.Repeat(".", 5000) + ":4", "........:..:" + strings.Repeat("4", 5000), strings.Repeat(".:", 5000) + ".",
	}
	for _, text := range texts {
		if p, ok := impl.ParsePuzzle(text); ok || p != (impl.Puzzle{}) {
			t.Errorf("ParsePuzzle of %q: %v, %v", text, p, ok)
		}
	}
}

// TestChangedTextsOfPuzzles has one sign more, less, or another one. What is read then is what the text says.
func TestChangedTextsOfPuzzles(t *testing.T) {
	read, other := 0, 0
	check := func(text string) {
		p, ok := impl.ParsePuzzle(text)
		want := plainIsPuzzle(text)
		if ok != want || ok && (p != puzzle(text) || answer(impl.PuzzleText(p)) != some(text)) || !ok && p != (impl.Puzzle{}) {
			t.Errorf("ParsePuzzle of %q: %v, %v, want %v", text, p, ok, want)
		}
		if ok {
			read++
		} else {
			other++
		}
	}
	signs := []string{}
	for sign := range 256 {
		signs = append(signs, string([]byte{byte(sign)}))
	}
	for text := range strings.FieldsSeq(boundPuzzles) {
		for at := range len(text) + 1 {
			check(text[:at])
			check(text[at:])
			for _, sign := range signs {
				check(text[:at] + sign + text[at:])
				if at < len(text) {
					check(overlaid(text, at, sign))
					check(overlaid(text, at, ""))
				}
			}
		}
	}
	if read < 1000 || other < 1000 {
		t.Errorf("%d texts are read, %d are not", read, other)
	}
}

func TestListsOfChapter9ShareNoMemory(t *testing.T) {
	for _, text := range []string{"...:21..:2", "..:....:3", "........:.42......3:4", "........:..:4", "....:....:2"} {
		checkNew(t, "Solutions", func() ([]string, bool) { return impl.Solutions(puzzle(text)) }, "nothing")
	}
}

// TestTextsOfChapter9AreNew asks where texts lie, as they cannot be written over. Those of one sign may lie anywhere.
func TestTextsOfChapter9AreNew(t *testing.T) {
	lies := func(text string) [2]uintptr {
		from := uintptr(unsafe.Pointer(unsafe.StringData(text)))
		return [2]uintptr{from, from + uintptr(len(text))}
	}
	w := "11221122"
	text := "11221122:21222122:2"
	p := impl.Puzzle{Word: "1122112.", Said: "2122212.", Digits: 2}
	still := puzzle("........:..:1")
	for name, ask := range map[string]func() []string{
		"ParsePuzzle":   func() []string { q, _ := impl.ParsePuzzle(text); return []string{q.Word, q.Said} },
		"PuzzleText":    func() []string { said, _ := impl.PuzzleText(p); return []string{said} },
		"FillGap":       func() []string { q, _ := impl.FillGap(p, 7, 2); return []string{q.Word, q.Said} },
		"OpenPlace":     func() []string { q, _ := impl.OpenPlace(p, 0); return []string{q.Word, q.Said} },
		"OpenSaid":      func() []string { q, _ := impl.OpenSaid(p, 0); return []string{q.Word, q.Said} },
		"HarderPuzzle":  func() []string { q, _ := impl.HarderPuzzle(p); return []string{q.Word, q.Said} },
		"HarderPuzzle ": func() []string { q, _ := impl.HarderPuzzle(still); return []string{q.Word, q.Said} },
		"MakePuzzle":    func() []string { q, _ := impl.MakePuzzle(w, 2, 100); return []string{q.Word, q.Said} },
		"Solutions":     func() []string { solutions, _ := impl.Solutions(puzzle("........:2.......:2")); return solutions },
		"FirstSolution": func() []string { first, _ := impl.FirstSolution(puzzle(text)); return []string{first} },
		"SureWord":      func() []string { sure, _ := impl.SureWord(p); return []string{sure} },
		"SureSaid":      func() []string { sure, _ := impl.SureSaid(p); return []string{sure} },
	} {
		given := []string{w, text, p.Word, p.Said, still.Word, still.Said}
		told := append(ask(), ask()...)
		for at, answer := range told {
			for _, other := range append(slices.Clone(given), told[:at]...) {
				a, b := lies(answer), lies(other)
				if len(answer) < 2 || a[0] < b[1] && b[0] < a[1] {
					t.Errorf("%s: the text %q shares memory with %q", name, answer, other)
				}
			}
		}
	}
}

// TestPuzzlesBesideEachOther asks at the same time, and again: what one call tells is none of the others' business.
func TestPuzzlesBesideEachOther(t *testing.T) {
	replies := make(chan map[string][]any)
	puzzles := []impl.Puzzle{}
	for text := range strings.FieldsSeq(boundPuzzles) {
		puzzles = append(puzzles, puzzle(text))
	}
	ask := func(p impl.Puzzle) map[string][]any {
		results := puzzleCalls(p)
		results["puzzle"] = []any{p}
		return results
	}
	for _, p := range puzzles {
		go func() { replies <- ask(p) }()
	}
	for range puzzles {
		got := <-replies
		for name, want := range ask(got["puzzle"][0].(impl.Puzzle)) {
			if !sameTexts(got[name], want) {
				t.Errorf("%s of %v: %v, want %v", name, got["puzzle"], got[name], want)
			}
		}
	}
}
