package tests

import (
	"slices"
	"testing"

	"loop.example/g01240/impl"
)

// plainAgain counts again what is told as a text of digits, or tells that a number has no name.
func plainAgain(l impl.Language, text string) told {
	counts := plainCounts(l, numbersOf(text))
	if slices.Max(counts) >= len(l.Names) {
		return none
	}
	return digits(counts, true)
}

// lists is what is expected of a way: its told numbers as texts of digits, or that it fails.
func lists(way []string, ok bool) listed {
	if !ok {
		return listed{}
	}
	return list(way, true)
}

func TestCountAgain(t *testing.T) {
	for _, c := range []struct {
		language, told string
		want           told
	}{
		{exampleLanguage, "22", some("33")},
		{exampleLanguage, "33", some("33")},
		{exampleLanguage, "1", some("1")},
		{exampleLanguage, "0000", none},
		{exampleLanguage, "4444", none},
		{turnLanguage, "0", some("1")},
		{turnLanguage, "1", some("2")},
		{turnLanguage, "2", some("1")},
		{longLanguage, "8", some("9")},
		{longLanguage, "9", some("1")},
		{shortLanguage, "1", some("2")},
		{shortLanguage, "2", none},
		{"a:", "0", none},
		{"b,c:", "1", some("1")},
		{"b:", "0", none},
		{"a,b,c:", "01", some("22")},
		{"a,b,c:", "00", none},
		{"a,b,c:", "11", none},
		{tenLongNames + ":", "0", some("9")},
		{tenLongNames + ":", "00", none},
		{tenLongNames + ":a", "0", none},
	} {
		if got := digits(impl.CountAgain(language(c.language), numbersOf(c.told))); got != c.want {
			t.Errorf("CountAgain of %s, %s: %v, want %v", c.language, c.told, got, c.want)
		}
	}
	for _, text := range knownLanguages() {
		l := language(text)
		for _, numbers := range someTold(l) {
			if got, want := digits(impl.CountAgain(l, numbers)), plainAgain(l, digits(numbers, true).text); got != want {
				t.Errorf("CountAgain of %s, %v: %v, want %v", text, numbers, got, want)
			}
		}
	}
}

func TestKnownWaysOfCounting(t *testing.T) {
	for _, c := range []struct {
		language, told string
		times          int
		want           listed
	}{
		{exampleLanguage, "22", 0, someList("22")},
		{exampleLanguage, "22", 1, someList("22 33")},
		{exampleLanguage, "22", 3, someList("22 33 33 33")},
		{turnLanguage, "0", 4, someList("0 1 2 1 2")},
		{longLanguage, "0", 30, someList("0 1 2 3 4 5 6 7 8 9 1 2 3 4 5 6 7 8 9 1 2 3 4 5 6 7 8 9 1 2 3")},
		{shortLanguage, "0", 2, someList("0 1 2")},
		{shortLanguage, "0", 3, listed{}},
		{shortLanguage, "2", 0, someList("2")},
		{shortLanguage, "2", 1, listed{}},
		{shortLanguage, "0", 30, listed{}},
		{"a:", "0", 0, someList("0")},
		{"a:", "0000", 0, someList("0000")},
		{"a:", "0000", 1, listed{}},
	} {
		if got := digitLists(impl.WayOfCounting(language(c.language), numbersOf(c.told), c.times)); got != c.want {
			t.Errorf("WayOfCounting of %s, %s, %d: %v, want %v", c.language, c.told, c.times, got, c.want)
		}
	}
}

func TestKnownLoopsOfCounting(t *testing.T) {
	for _, c := range []struct {
		language, told string
		want           loop
	}{
		{exampleLanguage, "1", loop{0, 1, true}},
		{exampleLanguage, "33", loop{0, 1, true}},
		{exampleLanguage, "22", loop{1, 1, true}},
		{exampleLanguage, "0000", loop{}},
		{turnLanguage, "0", loop{1, 2, true}},
		{turnLanguage, "1", loop{0, 2, true}},
		{turnLanguage, "2", loop{0, 2, true}},
		{longLanguage, "0", loop{1, 9, true}},
		{longLanguage, "5", loop{0, 9, true}},
		{shortLanguage, "0", loop{}},
		{shortLanguage, "2", loop{}},
		{"a:", "0", loop{}},
	} {
		if got := ends(impl.LoopOfCounting(language(c.language), numbersOf(c.told))); got != c.want {
			t.Errorf("LoopOfCounting of %s, %s: %v, want %v", c.language, c.told, got, c.want)
		}
	}
}

func TestWaysAndLoopsOfCounting(t *testing.T) {
	failed, turning := 0, 0
	for _, text := range knownLanguages() {
		l := language(text)
		for _, numbers := range someTold(l) {
			again := func(before string) told { return plainAgain(l, before) }
			first := digits(numbers, true)
			way, tail, ok := plainWay(first.text, again)
			if got, want := ends(impl.LoopOfCounting(l, numbers)), (loop{tail, len(way) - tail, ok}); got != want {
				t.Errorf("LoopOfCounting of %s, %v: %v, want %v", text, numbers, got, want)
			}
			if !ok {
				failed++
			} else if len(way)-tail > 1 {
				turning++
			}
			way = []string{}
			for next := first; next.ok && len(way) <= 30; next = again(next.text) {
				way = append(way, next.text)
			}
			for _, times := range []int{0, 1, 2, 3, 5, 29, 30} {
				want := lists(way[:min(times+1, len(way))], times < len(way))
				if got := digitLists(impl.WayOfCounting(l, numbers, times)); got != want {
					t.Errorf("WayOfCounting of %s, %v, %d: %v, want %v", text, numbers, times, got, want)
				}
			}
		}
	}
	if failed < 100 || turning < 100 {
		t.Errorf("only %d fail, only %d end in longer loops", failed, turning)
	}
}

// TestCountingEndsInLoops follows the calls alone, where the loop is near enough.
func TestCountingEndsInLoops(t *testing.T) {
	for _, text := range knownLanguages() {
		l := language(text)
		for _, numbers := range someTold(l) {
			tail, length, ok := impl.LoopOfCounting(l, numbers)
			if !ok || tail+length > 30 {
				continue
			}
			way, ok := impl.WayOfCounting(l, numbers, tail+length)
			if !ok || !slices.Equal(way[tail], way[tail+length]) {
				t.Fatalf("way of %s, %v: %v, %v, tail %d, loop %d", text, numbers, way, ok, tail, length)
			}
			for at := range tail + length {
				if again := slices.IndexFunc(way, func(before []int) bool { return slices.Equal(before, way[at]) }); again != at {
					t.Errorf("way of %s, %v: told numbers come again too early: %v", text, numbers, way)
				}
			}
			if got := report(impl.IsTrueSentence(l, way[tail])); got != (verdict{length == 1, true}) {
				t.Errorf("true %v behind %v in %s: %v", way[tail], numbers, text, got)
			}
		}
	}
}
