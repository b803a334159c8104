package tests

import (
	"math"
	"reflect"
	"slices"
	"strings"
	"testing"

	"loop.example/g01240/impl"
)

const greatest = math.MaxInt
const least = math.MinInt

// oneWordCalls holds each function of chapter 1 that takes a word; times and digits are valid ones.
func oneWordCalls() map[string]func(w string) []any {
	all := func(results ...any) []any { return results }
	return map[string]func(w string) []any{
		"IsWord":      func(w string) []any { return all(impl.IsWord(w)) },
		"IsSpeakable": func(w string) []any { return all(impl.IsSpeakable(w)) },
		"RunsOf":      func(w string) []any { return all(impl.RunsOf(w)) },
		"SayWord":     func(w string) []any { return all(impl.SayWord(w)) },
		"HearWord":    func(w string) []any { return all(impl.HearWord(w)) },
		"SayTimes":    func(w string) []any { return all(impl.SayTimes(w, 0)) },
		"HearTimes":   func(w string) []any { return all(impl.HearTimes(w)) },
		"WayOfWord":   func(w string) []any { return all(impl.WayOfWord(w, 0)) },
		"LengthSaid":  func(w string) []any { return all(impl.LengthSaid(w)) },
		"CountDigit":  func(w string) []any { return all(impl.CountDigit(w, 1)) },
		"BackWord":    func(w string) []any { return all(impl.BackWord(w)) },
		"SayOther":    func(w string) []any { return all(impl.SayOther(w)) },
		"IsStill":     func(w string) []any { return all(impl.IsStill(w)) },
		"LongestRun":  func(w string) []any { return all(impl.LongestRun(w)) },
		"SumOfWord":   func(w string) []any { return all(impl.SumOfWord(w)) },
	}
}

// isZero reports whether a result is a zero value; an empty slice is the same as a nil one.
func isZero(result any) bool {
	v := reflect.ValueOf(result)
	return v.Kind() == reflect.Slice && v.Len() == 0 || v.IsZero()
}

// noWords holds texts that are no words: empty, of other signs, or too long.
func noWords() []string {
	texts := []string{"", "0", "12a", "1 1", "-1", "+1", "1.", "1,1", "١", "２２", "1\n", "\x00", "1\x80", strings.Repeat("1", 401), strings.Repeat("12", 4000), strings.Repeat("0", 400)}
	for sign := range 256 {
		if sign < '1' || sign > '9' {
			texts = append(texts, string([]byte{byte(sign)}), string([]byte{'1', byte(sign)}), string([]byte{byte(sign), '2', '2', '2'}))
		}
	}
	return texts
}

func TestTextsThatAreNoWordsGiveZero(t *testing.T) {
	for name, call := range oneWordCalls() {
		for _, text := range noWords() {
			for _, result := range call(text) {
				if !isZero(result) {
					t.Errorf("%s(%q): %v", name, text, call(text))
				}
			}
		}
	}
}

func TestFailedCallsGiveZero(t *testing.T) {
	for name, call := range oneWordCalls() {
		for _, w := range sampleWords() {
			results := call(w)
			if ok := results[len(results)-1].(bool); ok {
				continue
			}
			for _, result := range results {
				if !isZero(result) {
					t.Errorf("%s(%q): %v", name, w, results)
				}
			}
		}
	}
}

// extremeNumbers holds numbers at the bounds of the chapter and of int.
var extremeNumbers = []int{least, least + 1, -256, -1, 0, 1, 2, 9, 10, 17, 18, 19, 20, 21, 256, 257, 400, 401, 1 << 32, greatest - 1, greatest}

func TestNumbersAreAcceptedOrGiveZero(t *testing.T) {
	for _, a := range extremeNumbers {
		for _, w := range append(noWords(), "22", "1", strings.Repeat("6", 400)) {
			if way, ok := impl.WayOfWord(w, a); !ok && len(way) != 0 || ok && (a < 0 || a > 20) {
				t.Errorf("WayOfWord(%q, %d): %v, %v", w, a, way, ok)
			}
			if said, ok := impl.SayTimes(w, a); !ok && said != "" || ok && (a < 0 || a > 20) {
				t.Errorf("SayTimes(%q, %d): %q, %v", w, a, said, ok)
			}
			if got, want := count(impl.CountDigit(w, a)), a >= 1 && a <= 9 && impl.IsWord(w); got.ok != want || !want && got.number != 0 {
				t.Errorf("CountDigit(%q, %d): %v", w, a, got)
			}
		}
		for _, b := range extremeNumbers {
			want := a >= 1 && a <= 18 && b >= 1 && b <= 9
			if got := count(impl.CountHeard(a, b)); got.ok != want || !want && got.number != 0 {
				t.Errorf("CountHeard(%d, %d): %v", a, b, got)
			}
			for _, c := range extremeNumbers {
				want := want && c >= 1 && c <= 18
				if got := count(impl.CountWords(a, b, c)); got.ok != want || !want && got.number != 0 {
					t.Errorf("CountWords(%d, %d, %d): %v", a, b, c, got)
				}
			}
			checkRunOfAnyNumbers(t, a, b)
		}
	}
}

func checkRunOfAnyNumbers(t *testing.T, digit int, length int) {
	want := digit >= 1 && digit <= 9 && length >= 1 && length <= 400
	if got := answer(impl.WordOfRuns([][]int{{digit, length}})); got.ok != want || !want && got.text != "" {
		t.Errorf("WordOfRuns of %d, %d: %v", digit, length, got)
	}
	// 3 is none of the extreme numbers, so that the two digits differ.
	want = want && length <= 398
	if got := answer(impl.WordOfRuns([][]int{{3, 2}, {digit, length}})); got.ok != want || !want && got.text != "" {
		t.Errorf("WordOfRuns of 3, 2 and %d, %d: %v", digit, length, got)
	}
}

func TestWordOfRunsLeavesItsArgumentAlone(t *testing.T) {
	for _, digits := range [][]int{{1, 2, 1}, {1, 1, 2}, {1, 2, 10}} {
		room := make([][]int, 0, 8)
		for _, digit := range digits {
			run := make([]int, 0, 4)
			room = append(room, append(run, digit, 3))
		}
		whole := room[:cap(room)]
		impl.WordOfRuns(room)
		for at, run := range whole {
			if at >= len(digits) {
				if run != nil {
					t.Errorf("%v: room behind the runs was written", digits)
				}
				continue
			}
			if len(run) != 2 || !slices.Equal(run[:cap(run)], []int{digits[at], 3, 0, 0}) {
				t.Errorf("%v: run %d became %v", digits, at, run[:cap(run)])
			}
		}
	}
}

func TestSpareRoomIsNotRead(t *testing.T) {
	room := [][]int{{1, 2}, {2, 1}, {1, 5}}
	if got := answer(impl.WordOfRuns(room[:2])); got != some("112") {
		t.Error("runs behind the length were read:", got)
	}
	pair := []int{1, 2, 3}
	if got := answer(impl.WordOfRuns([][]int{pair[:2]})); got != some("11") {
		t.Error("numbers behind the length were read:", got)
	}
	if got := answer(impl.WordOfRuns([][]int{pair[:1]})); got != none {
		t.Error("a run of one number was taken:", got)
	}
}

func TestResultsShareNoMemory(t *testing.T) {
	want := [][]int{{1, 2}, {2, 3}, {1, 1}}
	first, _ := impl.RunsOf("112221")
	second, _ := impl.RunsOf("112221")
	for at := range first {
		grown := append(first[at], 7, 7)
		grown[0], first[at][1] = 8, 8
		for behind := at + 1; behind < len(first); behind++ {
			if !slices.Equal(first[behind], want[behind]) {
				t.Errorf("run %d changed with run %d: %v", behind, at, first[behind])
			}
		}
	}
	if !slices.EqualFunc(second, want, slices.Equal) {
		t.Error("another result changed:", second)
	}
	way, _ := impl.WayOfWord("1", 3)
	clear(way)
	if again, _ := impl.WayOfWord("1", 3); !slices.Equal(again, []string{"1", "11", "21", "1211"}) {
		t.Error("another way changed:", again)
	}
}
