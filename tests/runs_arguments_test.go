package tests

import (
	"slices"
	"strings"
	"testing"

	"loop.example/g01240/impl"
)

// wordRunCalls holds each function of chapter 4 that takes a word; digits are valid ones.
func wordRunCalls(w string) map[string][]any {
	all := func(results ...any) []any { return results }
	return map[string][]any{
		"LengthsOf":      all(impl.LengthsOf(w)),
		"WordOfLengths":  all(impl.WordOfLengths(w, 1, 2)),
		"IsOwnBeginning": all(impl.IsOwnBeginning(w, 1, 2)),
	}
}

// lowRunCalls holds each function of chapter 4 that takes a low word; numbers are valid ones.
func lowRunCalls(w string) map[string][]any {
	all := func(results ...any) []any { return results }
	return map[string][]any{
		"ExchangeWord":   all(impl.ExchangeWord(w)),
		"DerivedOf":      all(impl.DerivedOf(w)),
		"IsSmooth":       all(impl.IsSmooth(w)),
		"DepthOf":        all(impl.DepthOf(w)),
		"WordsDerivedTo": all(impl.WordsDerivedTo(w)),
		"SmoothInOwn":    all(impl.SmoothInOwn(w, 5000)),
	}
}

// pairCalls holds each function of chapter 4 that takes two digits; all else is valid.
func pairCalls(a int, b int) map[string][]any {
	all := func(results ...any) []any { return results }
	return map[string][]any{
		"WordOfLengths":  all(impl.WordOfLengths("1", a, b)),
		"OwnWord":        all(impl.OwnWord(a, b, 1)),
		"OwnDigit":       all(impl.OwnDigit(a, b, 1)),
		"OwnCount":       all(impl.OwnCount(a, b, 1, 1)),
		"OwnRun":         all(impl.OwnRun(a, b, 1)),
		"IsOwnBeginning": all(impl.IsOwnBeginning("1", a, b)),
	}
}

// noLowWords holds texts that are not low: of other signs or too long.
func noLowWords() []string {
	texts := []string{alternating(61), strings.Repeat("1122", 16), plainOwn(1, 2, 61), alternating(400), alternating(401), "1221 ", " 12", "12 21", "1,2", "１２", "-1"}
	for sign := range 256 {
		if sign != '1' && sign != '2' {
			one := string([]byte{byte(sign)})
			texts = append(texts, one, "1"+one, one+"22", "1"+one+"2", alternating(59)+one)
		}
	}
	return texts
}

func TestTextsThatAreNoWordsHaveNoLengths(t *testing.T) {
	for _, text := range noWords() {
		for name, results := range wordRunCalls(text) {
			checkZero(t, name, text, results)
		}
	}
}

func TestTextsThatAreNotLowGiveZero(t *testing.T) {
	for _, text := range noLowWords() {
		for name, results := range lowRunCalls(text) {
			checkZero(t, name, text, results)
		}
	}
}

func TestLowWordsOfNoDigitAndOf60(t *testing.T) {
	own := plainOwn(1, 2, 60)
	for w, smooth := range map[string]bool{"": true, own: true, strings.Repeat("1", 60): false, alternating(60): false} {
		if _, ok := impl.ExchangeWord(w); !ok {
			t.Errorf("%q is low", w)
		}
		if impl.IsSmooth(w) != smooth {
			t.Errorf("smooth %q: not %v", w, smooth)
		}
		if _, ok := impl.DepthOf(w); ok != smooth {
			t.Errorf("depth of %q: %v", w, ok)
		}
		if got := count(impl.SmoothInOwn(w, 100)); got.ok != (w == own) {
			t.Errorf("%q in the own word: %v", w, got)
		}
	}
	for _, name := range []string{"WordsDerivedTo", "SmoothInOwn"} {
		checkZero(t, name, "no digit", lowRunCalls("")[name])
	}
}

func TestFailedCallsOfChapter4GiveZero(t *testing.T) {
	for _, w := range append(sampleWords(), lowWords(8)...) {
		for _, calls := range []map[string][]any{wordRunCalls(w), lowRunCalls(w)} {
			for name, results := range calls {
				if !results[len(results)-1].(bool) {
					checkZero(t, name, w, results)
				}
			}
		}
	}
}

func TestWordsThatAreNotSmoothAreNotSought(t *testing.T) {
	for _, w := range []string{"111", "222", "12121", "21212", "112211", "1222", "111" + plainOwn(1, 2, 50)} {
		for _, most := range []int{0, 1, 100, 5000} {
			if got := count(impl.SmoothInOwn(w, most)); got != (counted{}) {
				t.Errorf("%s in %d digits: %v", w, most, got)
			}
		}
		if got := count(impl.DepthOf(w)); got != (counted{}) {
			t.Errorf("depth of %s: %v", w, got)
		}
	}
}

func TestTwoDifferentDigitsAreAsked(t *testing.T) {
	for _, a := range append(extremeNumbers, 3, 4, 5, 6, 7, 8) {
		for _, b := range append(extremeNumbers, 3, 4, 5, 6, 7, 8) {
			want := a != b && 1 <= a && a <= 9 && 1 <= b && b <= 9
			for name, results := range pairCalls(a, b) {
				if ok := results[len(results)-1].(bool); ok != want {
					t.Errorf("%s with %d and %d: %v", name, a, b, results)
				} else if !ok {
					checkZero(t, name, []int{a, b}, results)
				}
			}
		}
	}
}

func TestNumbersOfChapter4AreBounded(t *testing.T) {
	for _, n := range append(extremeNumbers, 13, 14, 15, 399, 4999, 5000, 5001, 99999, 100000, 100001) {
		isOwn := 1 <= n && n <= 100000
		own, ok := impl.OwnWord(2, 1, n)
		if isWord := 1 <= n && n <= 400; ok != isWord || ok && len(own) != n || !ok && own != "" {
			t.Errorf("OwnWord of %d: %q, %v", n, own, ok)
		}
		for name, got := range map[string]counted{
			"OwnDigit": count(impl.OwnDigit(2, 1, n)), "OwnRun": count(impl.OwnRun(2, 1, n)), "OwnCount": count(impl.OwnCount(2, 1, 2, n)),
		} {
			if got.ok != isOwn || (got.number == 0) == isOwn {
				t.Errorf("%s of %d: %v", name, n, got)
			}
		}
		if got := count(impl.OwnCount(2, 1, 3, n)); got != (counted{0, isOwn}) {
			t.Errorf("OwnCount of another digit, %d: %v", n, got)
		}
		if got, want := count(impl.OwnCount(2, 1, n, 10)), 1 <= n && n <= 9; got.ok != want || (got.number == 0) == (n == 1 || n == 2) {
			t.Errorf("OwnCount of digit %d: %v", n, got)
		}
		isSmoothLength := 0 <= n && n <= 14
		if words, ok := impl.AllSmooth(n); ok != isSmoothLength || (len(words) == 0) == ok {
			t.Errorf("AllSmooth of %d: %v, %v", n, words, ok)
		}
		if got := count(impl.CountSmooth(n)); got.ok != isSmoothLength || (got.number == 0) == got.ok {
			t.Errorf("CountSmooth of %d: %v", n, got)
		}
		isMost := 0 <= n && n <= 5000
		if got := count(impl.SmoothInOwn("1", n)); got.ok != isMost || (got.number != 0) != (isMost && n > 0) {
			t.Errorf("SmoothInOwn of %d: %v", n, got)
		}
	}
}

// TestOneWrongArgumentIsEnough breaks several arguments at once, so that none is checked only behind another one.
func TestOneWrongArgumentIsEnough(t *testing.T) {
	for _, n := range []int{0, -1, 100001, greatest, least} {
		for _, pair := range [][2]int{{1, 1}, {0, 2}, {2, 10}, {9, 9}} {
			checkZero(t, "OwnWord", pair, []any{answer(impl.OwnWord(pair[0], pair[1], n))})
			checkZero(t, "OwnDigit", pair, []any{count(impl.OwnDigit(pair[0], pair[1], n))})
			checkZero(t, "OwnRun", pair, []any{count(impl.OwnRun(pair[0], pair[1], n))})
			for _, digit := range []int{0, 1, 10} {
				checkZero(t, "OwnCount", pair, []any{count(impl.OwnCount(pair[0], pair[1], digit, n))})
			}
			checkZero(t, "IsOwnBeginning", pair, []any{report(impl.IsOwnBeginning("", pair[0], pair[1]))})
			checkZero(t, "WordOfLengths", pair, []any{answer(impl.WordOfLengths("0", pair[0], pair[1]))})
			checkZero(t, "WordOfLengths", pair, []any{answer(impl.WordOfLengths(strings.Repeat("9", 400), pair[0], pair[1]))})
		}
		for _, w := range []string{"", "111", "3"} {
			checkZero(t, "SmoothInOwn", n, []any{count(impl.SmoothInOwn(w, n))})
		}
	}
}

func TestResultsOfChapter4AreNew(t *testing.T) {
	calls := map[string]func() ([]string, bool){
		"AllSmooth":      func() ([]string, bool) { return impl.AllSmooth(5) },
		"WordsDerivedTo": func() ([]string, bool) { return impl.WordsDerivedTo("2122") },
	}
	for name, call := range calls {
		first, _ := call()
		want := slices.Clone(first)
		clear(first[:cap(first)])
		if again, ok := call(); !ok || !slices.Equal(again, want) {
			t.Errorf("%s told something else the second time: %v, %v", name, again, want)
		}
	}
}

// TestCallsBesideEachOther asks for own words at the same time: what one call tells is none of the others' business.
func TestCallsBesideEachOther(t *testing.T) {
	type reply struct {
		pair [2]int
		own  told
	}
	replies := make(chan reply)
	for _, pair := range digitPairs() {
		go func() { replies <- reply{pair, answer(impl.OwnWord(pair[0], pair[1], 400))} }()
	}
	for range digitPairs() {
		if got := <-replies; got.own != some(plainOwn(got.pair[0], got.pair[1], 400)) {
			t.Errorf("own word of %v: %v", got.pair, got.own)
		}
	}
}
