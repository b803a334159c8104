package tests

import (
	"slices"
	"strings"
	"testing"

	"loop.example/g01240/impl"
)

// plainDerived derives a low word, or tells that a run of it is too long.
func plainDerived(w string) told {
	lengths := ""
	for _, run := range plainRuns(w) {
		if run[1] > 2 {
			return none
		}
		lengths += plainLengths(strings.Repeat("1", run[1])).text
	}
	switch {
	case lengths == "1":
		return some("")
	case strings.HasPrefix(lengths, "1") && strings.HasSuffix(lengths, "1"):
		return some(lengths[1 : len(lengths)-1])
	case strings.HasPrefix(lengths, "1"):
		return some(lengths[1:])
	case strings.HasSuffix(lengths, "1"):
		return some(lengths[:len(lengths)-1])
	}
	return some(lengths)
}

// plainDepth derives a low word until there is no digit, or tells that this fails.
func plainDepth(w string) counted {
	if w == "" {
		return counted{0, true}
	}
	derived := plainDerived(w)
	if !derived.ok {
		return counted{}
	}
	depth := plainDepth(derived.text)
	if !depth.ok {
		return counted{}
	}
	return counted{depth.number + 1, true}
}

// longLowWords holds low words of up to 60 digits, smooth or not.
func longLowWords() []string {
	own := plainOwn(1, 2, 300)
	words := []string{
		alternating(59), alternating(60), strings.Repeat("1", 60), strings.Repeat("2", 60), strings.Repeat("1122", 15), strings.Repeat("2211", 14),
		strings.Repeat("1", 29) + "22", strings.Repeat("12", 29) + "11", strings.Repeat("21", 28) + "2111", "2" + own[:59], own[:59] + "2", own[:57] + "111",
	}
	for length := 1; length <= 60; length++ {
		words = append(words, own[:length], own[length:2*length], own[240-length:240])
	}
	return words
}

// lowWords holds all low words up to a length, the one of no digit among them, and long ones.
func lowWords(length int) []string {
	words := longLowWords()
	for n := 0; n <= length; n++ {
		words = append(words, allTexts(n, 2)...)
	}
	return words
}

func TestDerivedOf(t *testing.T) {
	for w, want := range map[string]told{
		"": some(""), "1": some(""), "2": some(""), "11": some("2"), "22": some("2"), "12": some(""), "21": some(""),
		"1221": some("2"), "111": none, "222": none, "1222": none, "1112": none, "122": some("2"), "112": some("2"), "121": some("1"), "212": some("1"),
		"1122": some("22"), "11212": some("211"), "12122": some("112"), "1212": some("11"), "12211": some("22"), "2212": some("21"), "1211": some("12"),
		alternating(60): some(strings.Repeat("1", 58)), alternating(59): some(strings.Repeat("1", 57)),
		strings.Repeat("1122", 15): some(strings.Repeat("2", 30)), strings.Repeat("1122", 14) + "1222": none,
		"2" + strings.Repeat("1122", 14): some(strings.Repeat("2", 28)), "2" + strings.Repeat("1122", 14) + "1": some(strings.Repeat("2", 28)),
		strings.Repeat("1122", 14) + "1": some(strings.Repeat("2", 28)), "111" + strings.Repeat("2211", 14): none,
	} {
		if got := answer(impl.DerivedOf(w)); got != want {
			t.Errorf("derived of %q: %v, want %v", w, got, want)
		}
	}
	for _, w := range lowWords(12) {
		if got, want := answer(impl.DerivedOf(w)), plainDerived(w); got != want {
			t.Errorf("derived of %q: %v, want %v", w, got, want)
		}
	}
}

func TestDepthOf(t *testing.T) {
	for w, want := range map[string]counted{
		"": {0, true}, "1": {1, true}, "2": {1, true}, "11": {2, true}, "12": {1, true}, "21": {1, true}, "22": {2, true}, "1221": {2, true}, "121": {2, true},
		"111": {}, "222": {}, "12121": {}, "21212": {}, "1122": {3, true}, "112212": {3, true}, "11221122": {}, "1112": {}, "112211": {},
		"1212": {3, true}, "122112122": {4, true}, alternating(60): {},
	} {
		if got := count(impl.DepthOf(w)); got != want {
			t.Errorf("depth of %q: %v, want %v", w, got, want)
		}
		if impl.IsSmooth(w) != want.ok {
			t.Errorf("smooth %q: not %v", w, want.ok)
		}
	}
	for _, w := range lowWords(12) {
		want := plainDepth(w)
		if got := count(impl.DepthOf(w)); got != want {
			t.Errorf("depth of %q: %v, want %v", w, got, want)
		}
		if impl.IsSmooth(w) != want.ok {
			t.Errorf("smooth %q: not %v", w, want.ok)
		}
	}
}

func TestSmoothWordsAreDerivedToSmoothOnes(t *testing.T) {
	for _, w := range lowWords(14) {
		depth, ok := impl.DepthOf(w)
		derived, isDerived := impl.DerivedOf(w)
		if w == "" {
			continue
		}
		next, nextOk := impl.DepthOf(derived)
		if ok != (isDerived && nextOk) || ok && depth != next+1 || ok != impl.IsSmooth(w) || ok && !impl.IsSmooth(derived) {
			t.Errorf("%q has depth %d, %v, and %q, derived from it, has %d, %v", w, depth, ok, derived, next, nextOk)
		}
		if isDerived && len(derived) >= len(w) {
			t.Errorf("%q is derived from %q", derived, w)
		}
		exchanged, _ := impl.ExchangeWord(w)
		back, _ := impl.BackWord(w)
		for _, other := range []string{exchanged, back} {
			if got := count(impl.DepthOf(other)); got != (counted{depth, ok}) {
				t.Errorf("%q has depth %d, %v, but %q has %v", w, depth, ok, other, got)
			}
		}
	}
}

func TestPartsOfTheOwnWordAreSmooth(t *testing.T) {
	own := plainOwn(1, 2, 5000)
	for at := 0; at+60 <= len(own); at += 7 {
		for _, length := range []int{1, 2, 13, 14, 15, 59, 60} {
			if w := own[at : at+length]; !impl.IsSmooth(w) {
				t.Errorf("%s, %d digits behind %d, is smooth", w, length, at)
			}
		}
	}
}

func TestExchangeWord(t *testing.T) {
	for w, want := range map[string]string{
		"": "", "1": "2", "2": "1", "11": "22", "1221": "2112", "1112": "2221", strings.Repeat("1", 60): strings.Repeat("2", 60),
		strings.Repeat("112", 20): strings.Repeat("221", 20),
	} {
		if got := answer(impl.ExchangeWord(w)); got != some(want) {
			t.Errorf("exchanged %q: %v, want %s", w, got, want)
		}
	}
	for _, w := range lowWords(8) {
		exchanged, ok := impl.ExchangeWord(w)
		if back := answer(impl.ExchangeWord(exchanged)); !ok || back != some(w) || len(exchanged) != len(w) {
			t.Errorf("exchanged %q: %s, %v, and again: %v", w, exchanged, ok, back)
		}
		for at := range len(exchanged) {
			if exchanged[at]+w[at] != '1'+'2' {
				t.Errorf("exchanged %q: %s", w, exchanged)
			}
		}
	}
}

func TestSmoothWordsAreAllThere(t *testing.T) {
	for n, want := range []int{1, 2, 4, 6, 10, 14, 18, 26, 34, 42, 50, 62, 78, 94, 110} {
		words, ok := impl.AllSmooth(n)
		if !ok || len(words) != want {
			t.Errorf("smooth words of %d digits: %d, %v, want %d", n, len(words), ok, want)
		}
		if got := count(impl.CountSmooth(n)); got != (counted{want, true}) {
			t.Errorf("number of smooth words of %d digits: %v, want %d", n, got, want)
		}
		plain := slices.DeleteFunc(allTexts(n, 2), func(w string) bool { return !plainDepth(w).ok })
		if !slices.Equal(words, plain) {
			t.Errorf("smooth words of %d digits: %v, want %v", n, words, plain)
		}
		for _, w := range words {
			if !impl.IsSmooth(w) || len(w) != n {
				t.Errorf("%q is among the smooth words of %d digits", w, n)
			}
		}
	}
	if got := list(impl.AllSmooth(3)); got != someList("112 121 122 211 212 221") {
		t.Error("smooth words of three digits:", got)
	}
	if words, ok := impl.AllSmooth(0); !ok || !slices.Equal(words, []string{""}) {
		t.Error("smooth words of no digit:", words, ok)
	}
}

func TestWordsDerivedTo(t *testing.T) {
	for w, want := range map[string]string{
		"1": "121 212", "2": "11 112 122 1221 2112 211 22 221", "11": "1212 2121", "22": "1122 11221 12211 122112 211221 21122 22112 2211",
		"12": "1211 12112 2122 21221", "21": "1121 12212 21121 2212", "111": "12121 21212", "222": "112211 1122112 1221122 12211221 21122112 2112211 2211221 221122",
	} {
		words := strings.Fields(want)
		slices.Sort(words)
		if got := list(impl.WordsDerivedTo(w)); got != list(words, true) {
			t.Errorf("words derived to %q: %v, want %s", w, got, words)
		}
	}
	// Each digit is two at most, and there are two lengths more: nothing longer is derived to five digits.
	derived := map[string][]string{}
	for n := 0; n <= 12; n++ {
		for _, w := range allTexts(n, 2) {
			if d := plainDerived(w); d.ok {
				derived[d.text] = append(derived[d.text], w)
			}
		}
	}
	for n := 1; n <= 5; n++ {
		for _, w := range allTexts(n, 2) {
			slices.Sort(derived[w])
			if got, want := list(impl.WordsDerivedTo(w)), list(derived[w], true); got != want {
				t.Errorf("words derived to %q: %v, want %v", w, got, want)
			}
		}
	}
}

// TestWordsDerivedToLongWords tells how many there are: either end has or has not a length of 1 more, but has it if it is 1.
func TestWordsDerivedToLongWords(t *testing.T) {
	for n := 6; n <= 25; n++ {
		for _, middle := range []string{strings.Repeat("1", n-2), strings.Repeat("2", n-2), alternating(n - 2), plainOwn(1, 2, n-2)} {
			for _, ends := range allTexts(2, 2) {
				w := ends[:1] + middle + ends[1:]
				words, ok := impl.WordsDerivedTo(w)
				if want := 2 * int(ends[0]-'0') * int(ends[1]-'0'); !ok || len(words) != want {
					t.Errorf("words derived to %q: %v, %v, want %d", w, words, ok, want)
				}
				if !slices.IsSorted(words) || len(slices.Compact(slices.Clone(words))) != len(words) {
					t.Errorf("words derived to %q: %v", w, words)
				}
				for _, word := range words {
					if got := answer(impl.DerivedOf(word)); got != some(w) {
						t.Errorf("words derived to %q: %s, from which %v is derived", w, word, got)
					}
				}
			}
		}
	}
	if words, ok := impl.WordsDerivedTo(strings.Repeat("2", 26)); ok || len(words) != 0 {
		t.Error("words derived to 26 digits:", words, ok)
	}
	if words, ok := impl.WordsDerivedTo(strings.Repeat("2", 25)); !ok || len(words) != 8 || len(words[2]) != 52 && len(words[3]) != 52 {
		t.Error("words derived to 25 digits:", words, ok)
	}
}

// plainTimes compares a word with the own word digit by digit at each place.
func plainTimes(own string, w string) int {
	times := 0
places:
	for at := 0; at+len(w) <= len(own); at++ {
		for digit := range len(w) {
			if own[at+digit] != w[digit] {
				continue places
			}
		}
		times++
	}
	return times
}

func TestSmoothInOwn(t *testing.T) {
	for _, c := range []struct {
		w    string
		most int
		want int
	}{
		{"1", 0, 0}, {"1", 1, 1}, {"2", 1, 0}, {"2", 2, 1}, {"22", 2, 0}, {"22", 3, 1}, {"122", 3, 1}, {"122", 9, 2}, {"122", 8, 1}, {"1221", 4, 1},
		{"122112122", 9, 1}, {"122112122", 8, 0}, {"1", 1000, 502}, {"2", 1000, 498}, {"121", 20, 2}, {"11", 20, 3}, {"11", 5000, 833}, {"1122", 19, 1}, {"1122", 18, 0}, {"1221", 5000, 832}, {"1211221221", 5000, 175},
	} {
		if got := count(impl.SmoothInOwn(c.w, c.most)); got != (counted{c.want, true}) {
			t.Errorf("%s in %d digits: %v, want %d", c.w, c.most, got, c.want)
		}
	}
	own := plainOwn(1, 2, 5000)
	words := []string{own[:60], own[4000:4060], own[4940:], own[:59], "2" + own[:59], own[1:3], own[100:130]}
	for n := 1; n <= 9; n++ {
		words = append(words, slices.DeleteFunc(allTexts(n, 2), func(w string) bool { return !plainDepth(w).ok })...)
	}
	for _, w := range words {
		if !plainDepth(w).ok {
			continue
		}
		for _, most := range []int{0, 1, 2, 3, len(w) - 1, len(w), len(w) + 1, 17, 60, 100, 999, 4060, 4999, 5000} {
			if got, want := count(impl.SmoothInOwn(w, most)), plainTimes(own[:most], w); got != (counted{want, true}) {
				t.Errorf("%s in %d digits: %v, want %d", w, most, got, want)
			}
		}
	}
}

// TestSmoothWordsStandOverEachOther takes words that begin again before they have ended.
func TestSmoothWordsStandOverEachOther(t *testing.T) {
	own := plainOwn(1, 2, 5000)
	for _, w := range []string{"1121", "1221", "2112", "2212", "12112", "21221", "1211221221", "2122112112"} {
		apart := strings.Count(own, w)
		if got, want := count(impl.SmoothInOwn(w, 5000)), plainTimes(own, w); got != (counted{want, true}) || got.number <= apart {
			t.Errorf("%s: %v, want %d, of which %d are apart", w, got, want, apart)
		}
	}
}
