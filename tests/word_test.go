package tests

import (
	"slices"
	"strconv"
	"strings"
	"testing"

	"loop.example/g01240/impl"
)

// told is the answer of a call that tells a text, or that there is none.
type told struct {
	text string
	ok   bool
}

func answer(text string, ok bool) told { return told{text, ok} }

func some(text string) told { return told{text, true} }

var none = told{}

// counted is the answer of a call that tells a number, or that there is none.
type counted struct {
	number int
	ok     bool
}

func count(number int, ok bool) counted { return counted{number, ok} }

// alternating is a word of so many digits, each a run of its own.
func alternating(length int) string {
	return strings.Repeat("12", length/2) + strings.Repeat("1", length%2)
}

// allTexts returns all texts of exactly so many digits 1..digits, in order.
func allTexts(length int, digits int) []string {
	texts := []string{""}
	for range length {
		var longer []string
		for _, text := range texts {
			for digit := 1; digit <= digits; digit++ {
				longer = append(longer, text+strconv.Itoa(digit))
			}
		}
		texts = longer
	}
	return texts
}

// sampleWords holds ordinary words and those at the bounds, speakable or not.
func sampleWords() []string {
	samples := []string{
		"9", "22", "1211", "3112", "987654321", "1122334455", "55555",
		strings.Repeat("7", 9), strings.Repeat("7", 10), strings.Repeat("7", 400),
		strings.Repeat("111111111222222222", 22), strings.Repeat("3", 10) + "1",
		alternating(199), alternating(200), alternating(201), alternating(400),
		strings.Repeat("1122", 100), strings.Repeat("91", 200),
	}
	for length := 1; length <= 6; length++ {
		samples = append(samples, allTexts(length, 3)...)
	}
	return samples
}

// plainRuns lists the runs of a text as pairs of digit and length, sign by sign.
func plainRuns(w string) [][]int {
	var runs [][]int
	for at := range len(w) {
		digit := int(w[at] - '0')
		if at > 0 && w[at] == w[at-1] {
			runs[len(runs)-1][1]++
		} else {
			runs = append(runs, []int{digit, 1})
		}
	}
	return runs
}

func plainLongest(w string) int {
	longest := 0
	for _, run := range plainRuns(w) {
		longest = max(longest, run[1])
	}
	return longest
}

// plainSay tells the runs as numbers: of the length and then the digit, or of the digit first.
func plainSay(w string, digitFirst bool) told {
	if plainLongest(w) > 9 || 2*len(plainRuns(w)) > 400 {
		return none
	}
	text := ""
	for _, run := range plainRuns(w) {
		if digitFirst {
			text += strconv.Itoa(run[0]) + strconv.Itoa(run[1])
		} else {
			text += strconv.Itoa(run[1]) + strconv.Itoa(run[0])
		}
	}
	return some(text)
}

func TestIsWordTakesOneTo400DigitsFrom1(t *testing.T) {
	for _, w := range []string{"1", "9", "22", "123456789", strings.Repeat("1", 400), alternating(400), strings.Repeat("8", 10)} {
		if !impl.IsWord(w) {
			t.Errorf("%q is a word", w)
		}
	}
	for _, w := range []string{"", "0", "10", "01", "1a", "a", "1 2", " 1", "1 ", "-1", "1\n", "1\x00", "\xff", "/", ":", "１", "1.2", strings.Repeat("1", 401), alternating(401)} {
		if impl.IsWord(w) {
			t.Errorf("%q is no word", w)
		}
	}
}

func TestIsSpeakableWantsRunsOfAtMostNine(t *testing.T) {
	for _, c := range []struct {
		w    string
		want bool
	}{
		{"1", true}, {"111", true}, {strings.Repeat("4", 9), true}, {strings.Repeat("4", 10), false},
		{"12" + strings.Repeat("3", 9) + "21", true}, {"12" + strings.Repeat("3", 10) + "21", false},
		{"1" + strings.Repeat("2", 10), false}, {strings.Repeat("2", 10) + "1", false},
		{strings.Repeat("5", 9) + strings.Repeat("6", 9), true}, {strings.Repeat("9", 400), false}, {alternating(400), true},
	} {
		if got, ok := impl.IsSpeakable(c.w); got != c.want || !ok {
			t.Errorf("%q: got %v, %v", c.w, got, ok)
		}
	}
}

func TestRunsAreThoseOfTheWordAndMakeItAgain(t *testing.T) {
	if runs, ok := impl.RunsOf("1112"); !ok || !slices.EqualFunc(runs, [][]int{{1, 3}, {2, 1}}, slices.Equal) {
		t.Error("runs of 1112:", runs, ok)
	}
	for _, w := range sampleWords() {
		runs, ok := impl.RunsOf(w)
		if !ok || !slices.EqualFunc(runs, plainRuns(w), slices.Equal) {
			t.Fatalf("%q: runs %v, %v", w, runs, ok)
		}
		if got := answer(impl.WordOfRuns(runs)); got != some(w) {
			t.Fatalf("%q: from its runs %v", w, got)
		}
	}
}

func TestWordOfRuns(t *testing.T) {
	for _, c := range []struct {
		runs [][]int
		want told
	}{
		{[][]int{{1, 1}}, some("1")},
		{[][]int{{1, 3}, {2, 1}}, some("1112")},
		{[][]int{{9, 2}, {1, 1}, {9, 1}}, some("9919")},
		{[][]int{{3, 12}}, some(strings.Repeat("3", 12))},
		{[][]int{{3, 400}}, some(strings.Repeat("3", 400))},
		{[][]int{{3, 399}, {4, 1}}, some(strings.Repeat("3", 399) + "4")},
		{[][]int{{3, 401}}, none},
		{[][]int{{3, 400}, {4, 1}}, none},
		{[][]int{{3, 1}, {4, 400}}, none},
		{nil, none},
		{[][]int{}, none},
		{[][]int{nil}, none},
		{[][]int{{1}}, none},
		{[][]int{{1, 2, 3}}, none},
		{[][]int{{1, 0}}, none},
		{[][]int{{1, -1}}, none},
		{[][]int{{2, 1}, {1, 0}}, none},
		{[][]int{{2, 1}, {1, -1}, {3, 2}}, none},
		{[][]int{{0, 1}}, none},
		{[][]int{{-1, 1}}, none},
		{[][]int{{10, 1}}, none},
		{[][]int{{1 + 256, 1}}, none},
		{[][]int{{1, 2}, {1, 1}}, none},
		{[][]int{{2, 1}, {1, 2}, {1, 1}}, none},
		{[][]int{{1, greatest}}, none},
		{[][]int{{1, greatest}, {2, greatest}}, none},
		{[][]int{{1, 2}, {2, greatest}}, none},
		{[][]int{{1, least}}, none},
	} {
		if got := answer(impl.WordOfRuns(c.runs)); got != c.want {
			t.Errorf("%v: got %v, want %v", c.runs, got, c.want)
		}
	}
}

func TestSayWord(t *testing.T) {
	for _, c := range []struct {
		w    string
		want told
	}{
		{"1", some("11")}, {"1112", some("3112")}, {"3112", some("132112")}, {"22", some("22")},
		{strings.Repeat("5", 9), some("95")}, {strings.Repeat("5", 10), none}, {"1" + strings.Repeat("5", 10), none},
		{alternating(200), some(strings.Repeat("1112", 100))}, {alternating(201), none}, {alternating(400), none},
		{strings.Repeat("1122", 100), some(strings.Repeat("2122", 100))},
	} {
		if got := answer(impl.SayWord(c.w)); got != c.want {
			t.Errorf("%q: got %v, want %v", c.w, got, c.want)
		}
	}
	for _, w := range sampleWords() {
		if got, want := answer(impl.SayWord(w)), plainSay(w, false); got != want {
			t.Fatalf("%q: got %v, want %v", w, got, want)
		}
	}
}

func TestWhatIsSaidIsHeardAgain(t *testing.T) {
	for _, w := range sampleWords() {
		said, ok := impl.SayWord(w)
		if !ok {
			continue
		}
		if got := answer(impl.HearWord(said)); got != some(w) {
			t.Fatalf("%q is said %q and heard %v", w, said, got)
		}
	}
}

func TestWhatIsHeardIsSaidAgain(t *testing.T) {
	heard := 0
	for length := 1; length <= 7; length++ {
		for _, w := range allTexts(length, 3) {
			h, ok := impl.HearWord(w)
			if !ok {
				continue
			}
			heard++
			if got := answer(impl.SayWord(h)); got != some(w) {
				t.Fatalf("%q is heard %q and said %v", w, h, got)
			}
		}
	}
	if want := 9 + 54 + 324; heard != want {
		t.Errorf("%d words are heard, not %d", heard, want)
	}
}

func TestHearWord(t *testing.T) {
	longest := strings.Repeat("9192", 22) + "41"
	for _, c := range []struct {
		w    string
		want told
	}{
		{"3112", some("1112")}, {"1211", some("21")}, {"11", some("1")}, {"22", some("22")}, {"95", some(strings.Repeat("5", 9))},
		{"1121", none}, {"111211", some("121")}, {"111212", none}, {"1", none}, {"112", none}, {"31121", none},
		{longest, some(strings.Repeat("111111111222222222", 22) + "1111")},
		{longest + "12", none},
		{longest + "9293", none},
		{strings.Repeat("9192", 22) + "2122", some(strings.Repeat("111111111222222222", 22) + "1122")},
		{strings.Repeat("9192", 22) + "2123", some(strings.Repeat("111111111222222222", 22) + "1133")},
		{strings.Repeat("9192", 22) + "2132", none},
		{strings.Repeat("1112", 100), some(alternating(200))},
		{strings.Repeat("2122", 100), some(strings.Repeat("1122", 100))},
		{strings.Repeat("2122", 99) + "2132", none},
		{"", none}, {"10", none}, {"01", none}, {"1x", none}, {strings.Repeat("1112", 100) + "11", none},
	} {
		if got := answer(impl.HearWord(c.w)); got != c.want {
			t.Errorf("%q: got %v, want %v", c.w, got, c.want)
		}
	}
}

func TestSayTimesAndTheWay(t *testing.T) {
	for _, c := range []struct {
		w     string
		times int
		want  told
	}{
		{"1", 0, some("1")}, {"1", 1, some("11")}, {"1", 5, some("312211")}, {"1112", 2, some("132112")},
		{"22", 20, some("22")}, {"22", 21, none}, {"22", -1, none}, {"22", greatest, none}, {"22", least, none},
		{strings.Repeat("6", 10), 0, some(strings.Repeat("6", 10))}, {strings.Repeat("6", 10), 1, none},
		{strings.Repeat("6", 400), 0, some(strings.Repeat("6", 400))},
		{alternating(400), 0, some(alternating(400))}, {alternating(400), 1, none},
		{alternating(200), 1, some(strings.Repeat("1112", 100))}, {alternating(200), 2, some(strings.Repeat("3112", 100))}, {alternating(200), 3, none},
		{"", 0, none}, {"10", 0, none},
	} {
		if got := answer(impl.SayTimes(c.w, c.times)); got != c.want {
			t.Errorf("%q, %d: got %v, want %v", c.w, c.times, got, c.want)
		}
		way, ok := impl.WayOfWord(c.w, c.times)
		if ok != c.want.ok || ok && (len(way) != c.times+1 || way[c.times] != c.want.text) || !ok && len(way) != 0 {
			t.Errorf("%q, %d: way %q, %v", c.w, c.times, way, ok)
		}
	}
	if way, ok := impl.WayOfWord("1", 4); !ok || !slices.Equal(way, []string{"1", "11", "21", "1211", "111221"}) {
		t.Error("way of 1:", way, ok)
	}
}

// From 1 on, what is said has 302 digits behind 19 times, and would have 408 behind 20.
func TestSayingTooLongWordFails(t *testing.T) {
	lengths := []int{1, 2, 2, 4, 6, 6, 8, 10, 14, 20, 26, 34, 46, 62, 78, 102, 134, 176, 226, 302}
	way, ok := impl.WayOfWord("1", 19)
	if !ok || len(way) != 20 {
		t.Fatal("way of 1, 19 times:", len(way), ok)
	}
	for at, w := range way {
		if len(w) != lengths[at] || answer(impl.SayTimes("1", at)) != some(w) {
			t.Errorf("behind %d times: %q", at, w)
		}
	}
	if w, ok := impl.SayTimes("1", 20); w != "" || ok {
		t.Errorf("20 times: %q, %v", w, ok)
	}
	if way, ok := impl.WayOfWord("1", 20); len(way) != 0 || ok {
		t.Errorf("20 times: %q, %v", way, ok)
	}
}

func TestHearTimes(t *testing.T) {
	behind19, _ := impl.SayTimes("1", 19)
	for _, c := range []struct {
		w, want string
		times   int
	}{
		{"1", "1", 0}, {"1121", "1121", 0}, {"11", "1", 1}, {"3112", "2", 3}, {"132112", "2", 4}, {"2111", "2111", 0}, {"312211", "1", 5},
		{"22", "22", 20}, {behind19, "1", 19}, {strings.Repeat("6", 10), strings.Repeat("6", 10), 0},
		{strings.Repeat("9192", 100), strings.Repeat("9192", 100), 0}, {"95", strings.Repeat("5", 9), 1},
	} {
		if got, times, ok := impl.HearTimes(c.w); got != c.want || times != c.times || !ok {
			t.Errorf("%q: got %q, %d, %v", c.w, got, times, ok)
		}
	}
	for _, w := range sampleWords() {
		got, times, ok := impl.HearTimes(w)
		if back := answer(impl.SayTimes(got, times)); !ok || back != some(w) {
			t.Fatalf("%q: heard %q, %d times, and said %v", w, got, times, back)
		}
		if _, more := impl.HearWord(got); more && times < 20 {
			t.Fatalf("%q: %q can be heard again", w, got)
		}
	}
}

func TestLengthSaid(t *testing.T) {
	for _, c := range []struct {
		w    string
		want counted
	}{
		{"1", counted{2, true}}, {"1112", counted{4, true}}, {"22", counted{2, true}}, {strings.Repeat("3", 9), counted{2, true}},
		{strings.Repeat("3", 10), counted{}}, {alternating(200), counted{400, true}},
		{alternating(201), counted{402, true}}, {alternating(400), counted{800, true}},
	} {
		if got := count(impl.LengthSaid(c.w)); got != c.want {
			t.Errorf("%q: got %v, want %v", c.w, got, c.want)
		}
	}
	for _, w := range sampleWords() {
		if said, ok := impl.SayWord(w); ok && count(impl.LengthSaid(w)) != (counted{len(said), true}) {
			t.Fatalf("%q: said %q, length %v", w, said, count(impl.LengthSaid(w)))
		}
	}
}

func TestDigitsOfWord(t *testing.T) {
	for _, c := range []struct {
		w                   string
		digit, times        int
		longest, sum        int
		back, backSaidOther string
	}{
		{"1112", 1, 3, 3, 5, "2111", "1321"},
		{"1112", 3, 0, 3, 5, "2111", "1321"},
		{"9", 9, 1, 1, 9, "9", "91"},
		{"22", 2, 2, 2, 4, "22", "22"},
		{"1233321", 3, 3, 3, 15, "1233321", "1121332111"},
	} {
		if got := count(impl.CountDigit(c.w, c.digit)); got != (counted{c.times, true}) {
			t.Errorf("%q: digit %d: %v", c.w, c.digit, got)
		}
		if got := count(impl.LongestRun(c.w)); got != (counted{c.longest, true}) {
			t.Errorf("%q: longest run %v", c.w, got)
		}
		if got := count(impl.SumOfWord(c.w)); got != (counted{c.sum, true}) {
			t.Errorf("%q: sum %v", c.w, got)
		}
		if got := answer(impl.BackWord(c.w)); got != some(c.back) {
			t.Errorf("%q: back %v", c.w, got)
		}
		if got := answer(impl.SayOther(c.w)); got != some(c.backSaidOther) {
			t.Errorf("%q: other %v", c.w, got)
		}
	}
	for _, digit := range []int{0, -1, 10, 1 + 256, greatest, least} {
		if got := count(impl.CountDigit("1122", digit)); got != (counted{}) {
			t.Errorf("digit %d: %v", digit, got)
		}
	}
}

func TestDigitsOfManyWords(t *testing.T) {
	for _, w := range sampleWords() {
		sum, back := 0, ""
		for digit := 1; digit <= 9; digit++ {
			times := strings.Count(w, strconv.Itoa(digit))
			if got := count(impl.CountDigit(w, digit)); got != (counted{times, true}) {
				t.Fatalf("%q: digit %d: %v", w, digit, got)
			}
			sum += digit * times
		}
		for at := range len(w) {
			back = w[at:at+1] + back
		}
		if got := count(impl.SumOfWord(w)); got != (counted{sum, true}) {
			t.Fatalf("%q: sum %v", w, got)
		}
		if got := answer(impl.BackWord(w)); got != some(back) {
			t.Fatalf("%q: back %v", w, got)
		}
		if got := count(impl.LongestRun(w)); got != (counted{plainLongest(w), true}) {
			t.Fatalf("%q: longest run %v", w, got)
		}
		if got, want := answer(impl.SayOther(w)), plainSay(w, true); got != want {
			t.Fatalf("%q: other %v, want %v", w, got, want)
		}
	}
	if got := count(impl.SumOfWord(strings.Repeat("9", 400))); got != (counted{3600, true}) {
		t.Error("greatest sum:", got)
	}
}

func TestOnly22IsStill(t *testing.T) {
	for _, w := range sampleWords() {
		if still, ok := impl.IsStill(w); still != (w == "22") || !ok {
			t.Fatalf("%q: still %v, %v", w, still, ok)
		}
	}
}

func TestCountWordsCountsThem(t *testing.T) {
	for length := 1; length <= 7; length++ {
		for digits := 1; digits <= 4; digits++ {
			texts := allTexts(length, digits)
			for _, longest := range []int{1, 2, 3, 6, 7, 8, 18} {
				want := 0
				for _, text := range texts {
					if plainLongest(text) <= longest {
						want++
					}
				}
				if got := count(impl.CountWords(length, digits, longest)); got != (counted{want, true}) {
					t.Errorf("length %d, digits %d, longest %d: %v, want %d", length, digits, longest, got, want)
				}
			}
		}
	}
}

func TestCountWordsAtItsBounds(t *testing.T) {
	for _, c := range []struct {
		length, digits, longest int
		want                    counted
	}{
		{1, 1, 1, counted{1, true}}, {1, 9, 1, counted{9, true}}, {2, 1, 1, counted{0, true}}, {18, 1, 17, counted{0, true}},
		{18, 1, 18, counted{1, true}}, {18, 9, 18, counted{150094635296999121, true}}, {18, 9, 17, counted{150094635296999112, true}},
		{18, 2, 1, counted{2, true}}, {18, 2, 2, counted{8362, true}}, {18, 9, 1, counted{9 * 2251799813685248, true}},
		{0, 2, 2, counted{}}, {-1, 2, 2, counted{}}, {19, 2, 2, counted{}}, {2, 0, 2, counted{}}, {2, -1, 2, counted{}}, {2, 10, 2, counted{}},
		{2, 2, 0, counted{}}, {2, 2, -1, counted{}}, {2, 2, 19, counted{}},
		{greatest, 2, 2, counted{}}, {2, greatest, 2, counted{}}, {2, 2, greatest, counted{}}, {least, 2, 2, counted{}}, {2, least, 2, counted{}}, {2, 2, least, counted{}},
	} {
		if got := count(impl.CountWords(c.length, c.digits, c.longest)); got != c.want {
			t.Errorf("%v: got %v", c, got)
		}
	}
}

func TestCountHeardCountsThem(t *testing.T) {
	for length := 1; length <= 8; length++ {
		for digits := 1; digits <= 3; digits++ {
			want := 0
			for _, text := range allTexts(length, digits) {
				if _, ok := impl.HearWord(text); ok {
					want++
				}
			}
			if got := count(impl.CountHeard(length, digits)); got != (counted{want, true}) {
				t.Errorf("length %d, digits %d: %v, want %d", length, digits, got, want)
			}
		}
	}
}

func TestCountHeardAtItsBounds(t *testing.T) {
	for _, c := range []struct {
		length, digits int
		want           counted
	}{
		{2, 3, counted{9, true}}, {4, 2, counted{8, true}}, {1, 9, counted{0, true}}, {17, 9, counted{0, true}},
		{2, 1, counted{1, true}}, {4, 1, counted{0, true}}, {18, 1, counted{0, true}}, {2, 9, counted{81, true}},
		{18, 2, counted{1024, true}}, {18, 9, counted{81 * 722204136308736, true}},
		{0, 2, counted{}}, {-2, 2, counted{}}, {19, 2, counted{}}, {20, 2, counted{}}, {2, 0, counted{}}, {2, -1, counted{}}, {2, 10, counted{}},
		{3, 0, counted{}}, {3, 10, counted{}}, {greatest, 2, counted{}}, {least, 2, counted{}}, {2, greatest, counted{}}, {2, least, counted{}},
	} {
		if got := count(impl.CountHeard(c.length, c.digits)); got != c.want {
			t.Errorf("%v: got %v", c, got)
		}
	}
}
