package tests

import (
	"slices"
	"strings"
	"testing"

	"loop.example/g01240/impl"
)

// laterCalls holds what each function of chapter 2 that looks for elements tells of a word; the other arguments are valid ones.
func laterCalls(w string, element string) map[string][]any {
	all := func(results ...any) []any { return results }
	return map[string][]any{
		"ElementsFrom":          all(impl.ElementsFrom(w)),
		"CountElements":         all(impl.CountElements(w)),
		"CountsLater":           all(impl.CountsLater(w, 0)),
		"LengthLater":           all(impl.LengthLater(w, 0)),
		"DigitLater":            all(impl.DigitLater(w, 1, 0)),
		"ComesBack":             all(impl.ComesBack(w, element)),
		"FirstTime":             all(impl.FirstTime(w, element)),
		"SplitLater":            all(impl.SplitLater(w, 0)),
		"CommonElements first":  all(impl.CommonElements(w, "22")),
		"CommonElements second": all(impl.CommonElements("22", w)),
	}
}

// elementCalls adds what the other functions of chapter 2 tell of a word.
func elementCalls(w string, element string) map[string][]any {
	all := func(results ...any) []any { return results }
	calls := laterCalls(w, element)
	calls["FirstDigits"] = all(impl.FirstDigits(w))
	calls["StayApart first"] = all(impl.StayApart(w, "22"))
	calls["StayApart second"] = all(impl.StayApart("1", w))
	calls["SplitsOf"] = all(impl.SplitsOf(w))
	calls["PartsOf"] = all(impl.PartsOf(w))
	calls["IsElement"] = all(impl.IsElement(w))
	calls["DecayOf"] = all(impl.DecayOf(w))
	return calls
}

// noShortWords holds texts that chapter 2 does not take: no words, words that are not speakable, and words that are too long.
func noShortWords() []string {
	return append(noWords(),
		strings.Repeat("5", 10), "1"+strings.Repeat("2", 10), strings.Repeat("2", 10)+"1", strings.Repeat("3", 60),
		strings.Repeat("22", 30)+"2", alternating(61), strings.Repeat("12", 31), strings.Repeat("112", 20)+"1",
		alternating(400), strings.Repeat("1", 61), strings.Repeat("8", 400),
	)
}

func TestTextsThatChapter2DoesNotTakeGiveZero(t *testing.T) {
	for _, text := range noShortWords() {
		for _, element := range []string{text, "22", ""} {
			for name, results := range elementCalls(text, element) {
				for _, result := range results {
					if !isZero(result) {
						t.Errorf("%s of %q: %v", name, text, results)
					}
				}
			}
		}
	}
}

func TestElementsThatAreNoneGiveZero(t *testing.T) {
	for _, text := range append(noShortWords(), "1212", "4", "21212") {
		if got := report(impl.ComesBack("12", text)); got != (verdict{}) {
			t.Errorf("%q comes back: %v", text, got)
		}
		if got := count(impl.FirstTime("12", text)); got != (counted{}) {
			t.Errorf("%q is there behind %v", text, got)
		}
	}
}

func TestWordsOfOneAndOf60DigitsAreTaken(t *testing.T) {
	for _, w := range []string{"1", "9", strings.Repeat("12", 30), strings.Repeat("22111111111", 5) + "33333"} {
		for name, results := range elementCalls(w, w) {
			if taken := results[len(results)-1].(bool); !taken && !strings.Contains("DecayOf ComesBack FirstTime", name) {
				t.Errorf("%s of %q failed", name, w)
			}
		}
	}
}

func TestNumbersOfChapter2AreBounded(t *testing.T) {
	for _, number := range append(extremeNumbers, 11, 12, 13, 79, 80, 81) {
		isLater, isSplit, isDigit := 0 <= number && number <= 80, 0 <= number && number <= 12, 1 <= number && number <= 9
		if counts, ok := impl.CountsLater("1", number); ok != isLater || !ok && len(counts) != 0 {
			t.Errorf("CountsLater, %d: %v, %v", number, counts, ok)
		}
		if got := count(impl.LengthLater("1", number)); got.ok != isLater || !isLater && got.number != 0 {
			t.Errorf("LengthLater, %d: %v", number, got)
		}
		if got := count(impl.DigitLater("1", 1, number)); got.ok != isLater || !isLater && got.number != 0 {
			t.Errorf("DigitLater, %d times: %v", number, got)
		}
		if got := count(impl.DigitLater("1", number, 5)); got.ok != isDigit || !isDigit && got.number != 0 {
			t.Errorf("DigitLater, digit %d: %v", number, got)
		}
		if split, ok := impl.SplitLater("1", number); ok != isSplit || !ok && len(split) != 0 {
			t.Errorf("SplitLater, %d: %v, %v", number, split, ok)
		}
	}
}

func TestFailedCallsOfChapter2GiveZero(t *testing.T) {
	for _, w := range elementWords() {
		for name, results := range elementCalls(w, "1") {
			if results[len(results)-1].(bool) {
				continue
			}
			for _, result := range results {
				if !isZero(result) {
					t.Errorf("%s of %q: %v", name, w, results)
				}
			}
		}
	}
}

func TestResultsOfChapter2AreNew(t *testing.T) {
	calls := map[string]func() []any{
		"FirstDigits":    func() []any { return asAny(impl.FirstDigits("1")) },
		"SplitsOf":       func() []any { return asAny(impl.SplitsOf("121212")) },
		"PartsOf":        func() []any { return asAny(impl.PartsOf("121212")) },
		"DecayOf":        func() []any { return asAny(impl.DecayOf("13112221")) },
		"ElementsFrom":   func() []any { return asAny(impl.ElementsFrom("1")) },
		"CountsLater":    func() []any { return asAny(impl.CountsLater("1", 9)) },
		"CommonElements": func() []any { return asAny(impl.CommonElements("1", "3")) },
		"SplitLater":     func() []any { return asAny(impl.SplitLater("1", 9)) },
	}
	for name, call := range calls {
		if first := call(); len(first) == 0 || !slices.Equal(first, call()) {
			t.Errorf("%s told something else the second time", name)
		}
	}
}

// asAny copies a list and then overwrites it up to its capacity, so that a list that is told twice is noticed.
func asAny[T any](elements []T, _ bool) []any {
	var copied []any
	for _, element := range elements {
		copied = append(copied, element)
	}
	clear(elements[:cap(elements)])
	return copied
}
