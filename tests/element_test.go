package tests

import (
	"slices"
	"strconv"
	"strings"
	"testing"

	"loop.example/g01240/impl"
)

// Words at the bounds of chapter 2.
var (
	// longSaid has 31 runs: it is an element of which 62 digits are said, and these are one element too long.
	longSaid = strings.Repeat("13", 15) + "1"
	// sixtySaid has 30 runs: it is an element that decays into one of 60 digits.
	sixtySaid = strings.Repeat("13", 15)
	// sixtyElement is an element of 60 digits of which 68 are said, with no part longer than 60.
	sixtyElement = "311331111133311111133131331133311331313113133111331311311131"
	// There are exactly 200 elements from the one, exactly 201 from the other.
	twoHundred = "72445867651"
	oneMore    = "89622942111385912625249488"
	// The parts of the one are exactly 400 elements behind 12 times, those of the other 401.
	fourHundred     = strings.Repeat("12", 4) + strings.Repeat("32", 26)
	fourHundredMore = "12" + strings.Repeat("32", 28)
	// Behind 9 times, and not before, 3 is a first digit of late.
	late = "422221424"
)

// listed is the answer of a call that tells a list, or that there is none.
type listed struct {
	list string
	ok   bool
}

func list[T any](elements []T, ok bool) listed {
	texts := []string{}
	for _, element := range elements {
		switch element := any(element).(type) {
		case int:
			texts = append(texts, strconv.Itoa(element))
		case string:
			texts = append(texts, element)
		}
	}
	return listed{strings.Join(texts, " "), ok}
}

func someList(text string) listed { return listed{text, true} }

// verdict is the answer of a call that reports whether something is so.
type verdict struct{ is, ok bool }

func report(is bool, ok bool) verdict { return verdict{is, ok} }

// plainSaid says a text of any length whose runs have at most 9 digits.
func plainSaid(w string) string {
	said := strings.Builder{}
	for _, run := range plainRuns(w) {
		said.WriteString(strconv.Itoa(run[1]) + strconv.Itoa(run[0]))
	}
	return said.String()
}

// plainFirsts lists the first digits of a text said 0 to 9 times.
func plainFirsts(w string) string {
	firsts := ""
	for range 10 {
		firsts += w[:1]
		w = plainSaid(w)
	}
	return firsts
}

func plainSplits(w string) []int {
	var splits []int
	for place := 1; place < len(w); place++ {
		if !strings.Contains(plainFirsts(w[place:]), w[place-1:place]) {
			splits = append(splits, place)
		}
	}
	return splits
}

func plainParts(w string) []string {
	var parts []string
	start := 0
	for _, place := range append(plainSplits(w), len(w)) {
		parts = append(parts, w[start:place])
		start = place
	}
	return parts
}

// decayMemo keeps what plainDecay has found, as most words lead to the same elements.
var decayMemo = map[string][]string{}

func plainDecay(element string) []string {
	parts, known := decayMemo[element]
	if !known {
		parts = plainParts(plainSaid(element))
		decayMemo[element] = parts
	}
	return parts
}

// plainElements lists the elements from a word and behind how many times each is there first, or nothing if a limit is exceeded.
func plainElements(w string) ([]string, []int) {
	elements, times := []string{}, []int{}
	take := func(parts []string, behind int) {
		for _, part := range parts {
			if !slices.Contains(elements, part) {
				elements, times = append(elements, part), append(times, behind)
			}
		}
	}
	take(plainParts(w), 0)
	for at := 0; at < len(elements); at++ {
		if len(elements) > 200 || len(elements[at]) > 60 {
			return nil, nil
		}
		take(plainDecay(elements[at]), times[at]+1)
	}
	return elements, times
}

type later struct {
	element string
	times   int
}

// plainLength tells how many digits an element leads to behind so many times.
func plainLength(at later, memo map[later]int) int {
	if at.times == 0 {
		return len(at.element)
	}
	length, known := memo[at]
	if !known {
		for _, part := range plainDecay(at.element) {
			length += plainLength(later{part, at.times - 1}, memo)
		}
		memo[at] = length
	}
	return length
}

// shortWords holds speakable words of at most 60 digits.
func shortWords() []string {
	words := append(sampleWords(), elementWords()...)
	return slices.DeleteFunc(words, func(w string) bool { return len(w) > 60 || plainLongest(w) > 9 })
}

// elementWords holds words at the bounds, and a few ordinary ones.
func elementWords() []string {
	words := laterWords()
	for length := 2; length <= 3; length++ {
		words = append(words, allTexts(length, 4)...)
	}
	return words
}

// laterWords holds fewer of them, for what takes long.
func laterWords() []string {
	return []string{
		"1", "2", "3", "4", "9", "22", "2222", "12", "21", "11132", "1113213211", "13112221", "987654321", "222222222", "111111111", late,
		longSaid, sixtySaid, sixtyElement, twoHundred, oneMore, fourHundred, fourHundredMore,
		strings.Repeat("12", 30), strings.Repeat("13", 30), strings.Repeat("22", 4) + "1", strings.Repeat("123456789", 6),
		strings.Repeat("111111111222222222333333333", 2) + "444444",
		"11131311131113133131111311131113331331113131113331313313",
		"131331331331333311331333311331113111333313331131331331113333",
		"2211111121211111221121112211111222222211112221112121111",
	}
}

func TestFirstDigits(t *testing.T) {
	for _, c := range []struct{ w, want string }{
		{"1", "1 1 2 1 1 3 1 1 3 1"}, {"22", "2 2 2 2 2 2 2 2 2 2"}, {"4", "4 1 1 3 1 1 3 1 1 3"},
		{strings.Repeat("7", 9), "7 9 1 1 3 1 1 3 1 1"}, {late, "4 1 1 2 1 1 2 1 1 3"},
	} {
		if got := list(impl.FirstDigits(c.w)); got != someList(c.want) {
			t.Errorf("%q: got %v, want %v", c.w, got, c.want)
		}
	}
	for _, w := range shortWords() {
		want := strings.Join(strings.Split(plainFirsts(w), ""), " ")
		if got := list(impl.FirstDigits(w)); got != someList(want) {
			t.Fatalf("%q: got %v, want %v", w, got, want)
		}
	}
}

func TestStayApart(t *testing.T) {
	for _, c := range []struct {
		u, v string
		want bool
	}{
		{"4", "1", true}, {"21", "1", false}, {"2", "12", true}, {"1", "2", false}, {"1", "22", true}, {"12", "22", false}, {"3", "22", true},
		{"14", "41", false}, {"41", "4", false}, {"4", "14", true}, {"2", "13", true}, {"3", "13", false},
		{"3", late, false}, {"2", late, false}, {"5", late, true}, {"3", "1", false},
		{"9", strings.Repeat("7", 9), false}, {"9", strings.Repeat("7", 8), true},
		{strings.Repeat("5", 9), strings.Repeat("5", 9), false}, {strings.Repeat("12", 30), strings.Repeat("13", 30), true},
	} {
		if got := report(impl.StayApart(c.u, c.v)); got != (verdict{c.want, true}) {
			t.Errorf("%q, %q: got %v", c.u, c.v, got)
		}
	}
	for _, v := range shortWords() {
		firsts := plainFirsts(v)
		for _, u := range []string{"1", "2", "3", "14", "119", "22"} {
			want := !strings.Contains(firsts, u[len(u)-1:])
			if got := report(impl.StayApart(u, v)); got != (verdict{want, true}) {
				t.Fatalf("%q, %q: got %v", u, v, got)
			}
		}
	}
}

func TestSplitsAndParts(t *testing.T) {
	for _, c := range []struct{ w, splits, parts string }{
		{"1", "", "1"}, {"12", "", "12"}, {"22", "", "22"}, {"1113213211", "5", "11132 13211"},
		{"1212", "2", "12 12"}, {"122", "1", "1 22"}, {"41", "1", "4 1"}, {"4422", "2", "44 22"},
		{strings.Repeat("9", 9), "", strings.Repeat("9", 9)}, {sixtyElement, "", sixtyElement},
		{"3" + late, "6 8 9", "342222 14 2 4"},
	} {
		if got := list(impl.SplitsOf(c.w)); got != someList(c.splits) {
			t.Errorf("%q: splits %v, want %v", c.w, got, c.splits)
		}
		if got := list(impl.PartsOf(c.w)); got != someList(c.parts) {
			t.Errorf("%q: parts %v, want %v", c.w, got, c.parts)
		}
	}
	for _, w := range shortWords() {
		if got, want := list(impl.SplitsOf(w)), list(plainSplits(w), true); got != want {
			t.Fatalf("%q: splits %v, want %v", w, got, want)
		}
		if got, want := list(impl.PartsOf(w)), list(plainParts(w), true); got != want {
			t.Fatalf("%q: parts %v, want %v", w, got, want)
		}
	}
}

func TestPartsStayApartAndAreElements(t *testing.T) {
	for _, w := range shortWords() {
		parts, ok := impl.PartsOf(w)
		if !ok || strings.Join(parts, "") != w {
			t.Fatalf("%q: parts %q", w, parts)
		}
		if got := report(impl.IsElement(w)); got != (verdict{len(parts) == 1, true}) {
			t.Fatalf("%q: element %v of %d parts", w, got, len(parts))
		}
		for at, part := range parts {
			if got := report(impl.IsElement(part)); got != (verdict{true, true}) {
				t.Fatalf("%q: part %q is no element", w, part)
			}
			if at > 0 && report(impl.StayApart(parts[at-1], part)) != (verdict{true, true}) {
				t.Fatalf("%q: %q and %q do not stay apart", w, parts[at-1], part)
			}
		}
		checkPartsWhenSaid(t, w, parts)
	}
}

// checkPartsWhenSaid checks that what is said of a word is what is said of its parts, one behind the other.
func checkPartsWhenSaid(t *testing.T, w string, parts []string) {
	t.Helper()
	whole, said := w, slices.Clone(parts)
	for range 9 {
		whole = plainSaid(whole)
		for at := range said {
			said[at] = plainSaid(said[at])
		}
		if strings.Join(said, "") != whole {
			t.Fatalf("%q: parts %q met when they were said", w, parts)
		}
	}
}

func TestDecayOf(t *testing.T) {
	for _, c := range []struct {
		w    string
		want listed
	}{
		{"22", someList("22")}, {"1", someList("11")}, {"12", someList("1112")}, {"13112221", someList("11132 13211")},
		{strings.Repeat("9", 9), someList("99")},
		{sixtySaid, someList(strings.Repeat("1113", 15))}, {longSaid, listed{}},
		{sixtyElement, listed{}}, {strings.Repeat("13", 30), listed{}},
		{"1212", listed{}}, {"41", listed{}}, {"1113213211", listed{}},
	} {
		if got := list(impl.DecayOf(c.w)); got != c.want {
			t.Errorf("%q: got %v, want %v", c.w, got, c.want)
		}
	}
	for _, w := range shortWords() {
		want := listed{}
		if len(plainSplits(w)) == 0 && len(plainSaid(w)) <= 60 {
			want = list(plainDecay(w), true)
		}
		if got := list(impl.DecayOf(w)); got != want {
			t.Fatalf("%q: got %v, want %v", w, got, want)
		}
	}
}
