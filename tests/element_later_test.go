package tests

import (
	"slices"
	"strings"
	"testing"

	"loop.example/g01240/impl"
)

func TestElementsFromAreFoundInOrder(t *testing.T) {
	if got := list(impl.ElementsFrom("22")); got != someList("22") {
		t.Error("from 22:", got)
	}
	for _, c := range []struct{ w, begin string }{
		{"1", "1 11 21 1211 111221 312211 13112221 11132 13211 311312 11131221 "},
		{"41", "4 1 14 11 1114 21 3114 1211 "},
		{"1212", "12 1112 3112 132112 "},
		{"3", "3 13 1113 3113 132113 1113122113 311311222113 1321132 "},
	} {
		if got := list(impl.ElementsFrom(c.w)); !got.ok || !strings.HasPrefix(got.list, c.begin) {
			t.Errorf("from %q: %v", c.w, got)
		}
	}
	for _, w := range elementWords() {
		elements, _ := plainElements(w)
		if got, want := list(impl.ElementsFrom(w)), list(elements, len(elements) > 0); got != want {
			t.Errorf("from %q: got %v, want %v", w, got, want)
		}
		if got := count(impl.CountElements(w)); got != (counted{len(elements), len(elements) > 0}) {
			t.Errorf("from %q: %v elements, want %d", w, got, len(elements))
		}
	}
}

func TestElementsDecayIntoElementsFound(t *testing.T) {
	for _, w := range elementWords() {
		elements, _ := impl.ElementsFrom(w)
		for at, element := range elements {
			if slices.Contains(elements[:at], element) {
				t.Errorf("from %q: %q comes twice", w, element)
			}
			if report(impl.IsElement(element)) != (verdict{true, true}) {
				t.Errorf("from %q: %q is no element", w, element)
			}
			decay, _ := impl.DecayOf(element)
			for _, part := range decay {
				if !slices.Contains(elements, part) {
					t.Errorf("from %q: %q, into which %q decays, is missing", w, part, element)
				}
			}
		}
	}
}

func TestLimitsOfElements(t *testing.T) {
	for _, c := range []struct {
		w    string
		want counted
	}{
		{"22", counted{1, true}}, {"3", counted{92, true}}, {"12", counted{92, true}}, {"4", counted{112, true}},
		{twoHundred, counted{200, true}}, {oneMore, counted{}},
		{longSaid, counted{}}, {strings.Repeat("13", 30), counted{}}, {sixtySaid, counted{102, true}}, {sixtyElement, counted{199, true}},
		// The element of 62 digits is found only behind the first decay.
		{"22" + longSaid, counted{}},
	} {
		if got := count(impl.CountElements(c.w)); got != c.want {
			t.Errorf("from %q: %v elements, want %v", c.w, got, c.want)
		}
	}
}

func TestWhereElementsFailEveryCallFails(t *testing.T) {
	for _, w := range []string{oneMore, longSaid, "22" + longSaid, strings.Repeat("13", 30)} {
		first, _ := impl.PartsOf(w)
		for name, results := range laterCalls(w, first[0]) {
			for _, result := range results {
				if !isZero(result) {
					t.Errorf("%s of %q: %v", name, w, results)
				}
			}
		}
		if got := list(impl.CommonElements("22", w)); got != (listed{}) {
			t.Errorf("common elements of 22 and %q: %v", w, got)
		}
	}
}

func TestCountsLater(t *testing.T) {
	for _, times := range []int{0, 1, 80} {
		if got := list(impl.CountsLater("22", times)); got != someList("1") {
			t.Errorf("22, %d times: %v", times, got)
		}
	}
	// 30 parts, all of them the same element.
	if counts, ok := impl.CountsLater(strings.Repeat("12", 30), 0); !ok || counts[0] != 30 || slices.Max(counts[1:]) != 0 {
		t.Error("30 parts:", counts, ok)
	}
	for _, w := range laterWords() {
		elements, _ := plainElements(w)
		if len(elements) == 0 {
			continue
		}
		parts := plainParts(w)
		for times := range 13 {
			want := make([]int, len(elements))
			for _, part := range parts {
				want[slices.Index(elements, part)]++
			}
			if got := list(impl.CountsLater(w, times)); got != list(want, true) {
				t.Fatalf("%q, %d times: got %v, want %v", w, times, got, want)
			}
			checkSplitLater(t, w, times, parts)
			parts = decayAll(parts)
		}
	}
}

func decayAll(parts []string) []string {
	var later []string
	for _, part := range parts {
		later = append(later, plainDecay(part)...)
	}
	return later
}

func checkSplitLater(t *testing.T, w string, times int, parts []string) {
	t.Helper()
	want := listed{}
	if len(parts) <= 400 {
		want = list(parts, true)
	}
	if got := list(impl.SplitLater(w, times)); got != want {
		t.Fatalf("%q, %d times: got %v, want %v", w, times, got, want)
	}
}

func TestSplitLater(t *testing.T) {
	for _, c := range []struct {
		w     string
		times int
		want  string
	}{
		{"22", 12, "22"}, {"1", 0, "1"}, {"1", 6, "13112221"}, {"1", 7, "11132 13211"}, {"1212", 1, "1112 1112"}, {"41", 2, "1114 21"},
	} {
		if got := list(impl.SplitLater(c.w, c.times)); got != someList(c.want) {
			t.Errorf("%q, %d times: %v", c.w, c.times, got)
		}
	}
	if elements, ok := impl.SplitLater(fourHundred, 12); !ok || len(elements) != 400 {
		t.Errorf("%d elements, %v", len(elements), ok)
	}
	if elements, ok := impl.SplitLater(fourHundredMore, 12); ok || len(elements) != 0 {
		t.Errorf("%d elements, %v", len(elements), ok)
	}
	if elements, ok := impl.SplitLater(fourHundredMore, 11); !ok || len(elements) > 400 {
		t.Errorf("%d elements, %v", len(elements), ok)
	}
}

func TestLaterElementsAreWhatIsSaid(t *testing.T) {
	for _, w := range laterWords() {
		if _, ok := impl.ElementsFrom(w); !ok {
			continue
		}
		said := w
		for times := range 10 {
			if got := count(impl.LengthLater(w, times)); got != (counted{len(said), true}) {
				t.Fatalf("%q, %d times: length %v, want %d", w, times, got, len(said))
			}
			for digit := 1; digit <= 9; digit++ {
				want := strings.Count(said, string(rune('0'+digit)))
				if got := count(impl.DigitLater(w, digit, times)); times%3 == 0 && got != (counted{want, true}) {
					t.Fatalf("%q, digit %d, %d times: %v, want %d", w, digit, times, got, want)
				}
			}
			if split, ok := impl.SplitLater(w, times); ok && strings.Join(split, "") != said {
				t.Fatalf("%q, %d times: split %q", w, times, split)
			}
			said = plainSaid(said)
		}
	}
}

func TestLengthLaterFarAlong(t *testing.T) {
	if got := count(impl.LengthLater("1", 49)); got != (counted{894810, true}) {
		t.Error("1, 49 times:", got)
	}
	memo := map[later]int{}
	for _, w := range laterWords() {
		if elements, _ := plainElements(w); len(elements) == 0 {
			continue
		}
		for _, times := range []int{10, 33, 79, 80} {
			want := 0
			for _, part := range plainParts(w) {
				want += plainLength(later{part, times}, memo)
			}
			if got := count(impl.LengthLater(w, times)); got != (counted{want, true}) {
				t.Fatalf("%q, %d times: %v, want %d", w, times, got, want)
			}
			digits := 0
			for digit := 1; digit <= 9; digit++ {
				number, _ := impl.DigitLater(w, digit, times)
				digits += number
			}
			if digits != want {
				t.Fatalf("%q, %d times: %d digits together, want %d", w, times, digits, want)
			}
		}
	}
}

func TestElementsThatComeBack(t *testing.T) {
	for _, c := range []struct {
		w, element string
		want       verdict
	}{
		{"22", "22", verdict{true, true}}, {"1", "1", verdict{false, true}}, {"1", "11132", verdict{true, true}}, {"1", "22", verdict{true, true}},
		{"12", "12", verdict{true, true}}, {"4", "4", verdict{false, true}}, {"3", "3", verdict{true, true}},
		// An element, but not from that word; a word from it that is no element; and no words.
		{"22", "1", verdict{}}, {"3", "4", verdict{}}, {"12", "1212", verdict{}}, {"1212", "1212", verdict{}}, {"12", "", verdict{}}, {"12", "0", verdict{}},
	} {
		if got := report(impl.ComesBack(c.w, c.element)); got != c.want {
			t.Errorf("%q from %q: got %v, want %v", c.element, c.w, got, c.want)
		}
	}
	for _, w := range []string{"1", "3", "4", "41", "2222", "111111111", sixtySaid} {
		elements, _ := plainElements(w)
		for _, element := range elements {
			if got := report(impl.ComesBack(w, element)); got != (verdict{plainComesBack(element), true}) {
				t.Errorf("%q from %q: %v", element, w, got)
			}
		}
	}
}

// plainComesBack reports whether an element is among those that its decay leads to.
func plainComesBack(element string) bool {
	reached := slices.Clone(plainDecay(element))
	for at := 0; at < len(reached); at++ {
		for _, part := range plainDecay(reached[at]) {
			if !slices.Contains(reached, part) {
				reached = append(reached, part)
			}
		}
	}
	return slices.Contains(reached, element)
}

func TestFirstTime(t *testing.T) {
	for _, c := range []struct {
		w, element string
		want       counted
	}{
		{"22", "22", counted{0, true}}, {"1", "1", counted{0, true}}, {"1", "11", counted{1, true}}, {"1", "13211", counted{7, true}},
		{"41", "1", counted{0, true}}, {"3", "22", counted{14, true}},
		{"22", "1", counted{}}, {"3", "4", counted{}}, {"1212", "1212", counted{}}, {"1", "", counted{}}, {"1", "x", counted{}},
	} {
		if got := count(impl.FirstTime(c.w, c.element)); got != c.want {
			t.Errorf("%q from %q: got %v, want %v", c.element, c.w, got, c.want)
		}
	}
	for _, w := range []string{"1", "3", "4", "4321", "2222", "111111111", sixtySaid} {
		elements, times := plainElements(w)
		for at, element := range elements {
			if got := count(impl.FirstTime(w, element)); got != (counted{times[at], true}) {
				t.Errorf("%q from %q: %v, want %d", element, w, got, times[at])
			}
		}
	}
}

func TestCommonElements(t *testing.T) {
	if got := list(impl.CommonElements("22", "22")); got != someList("22") {
		t.Error("22 and 22:", got)
	}
	if got := list(impl.CommonElements("22", "1")); got != someList("22") {
		t.Error("22 and 1:", got)
	}
	// In the order of those from the first word, whichever is first.
	if got := list(impl.CommonElements("13", "2")); got != list(impl.ElementsFrom("13")) {
		t.Error("13 and 2:", got)
	}
	from2, _ := impl.ElementsFrom("2")
	if got := list(impl.CommonElements("2", "13")); got != list(from2[1:], true) {
		t.Error("2 and 13:", got)
	}
	words := []string{"22", "1", "3", "4", "12", "41", "2222", "111111111", twoHundred, longSaid}
	for _, u := range words {
		for _, v := range words {
			fromU, _ := plainElements(u)
			fromV, _ := plainElements(v)
			want := listed{}
			if len(fromU) > 0 && len(fromV) > 0 {
				want = list(slices.DeleteFunc(fromU, func(element string) bool { return !slices.Contains(fromV, element) }), true)
			}
			if got := list(impl.CommonElements(u, v)); got != want {
				t.Errorf("%q and %q: got %v, want %v", u, v, got, want)
			}
		}
	}
}
