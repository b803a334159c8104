package tests

import (
	"slices"
	"strconv"
	"strings"
	"testing"

	"loop.example/g01240/impl"
)

// kolakoski holds the first digits of the own word of 1 and 2 as they are known.
const kolakoski = "122112122122112112212112122112112122122112122121121122122112122122112112122121122122112122122112112212112122"

// plainOwn makes the first digits of an own word run by run: each has the length that its digit in the word tells.
func plainOwn(a int, b int, n int) string {
	own := []byte{}
	for run := 0; len(own) < n; run++ {
		digit := byte('0' + []int{a, b}[run%2])
		// A digit that is not there yet is the one that begins here.
		length := digit - '0'
		if run < len(own) {
			length = own[run] - '0'
		}
		own = append(own, strings.Repeat(string(digit), int(length))...)
	}
	return string(own[:n])
}

// digitPairs lists all pairs of different digits.
func digitPairs() [][2]int {
	pairs := [][2]int{}
	for a := 1; a <= 9; a++ {
		for b := 1; b <= 9; b++ {
			if a != b {
				pairs = append(pairs, [2]int{a, b})
			}
		}
	}
	return pairs
}

// plainLengths lists the lengths of runs, or tells that one of them is too long.
func plainLengths(w string) told {
	text := ""
	for _, run := range plainRuns(w) {
		if run[1] > 9 {
			return none
		}
		text += strconv.Itoa(run[1])
	}
	return some(text)
}

func TestLengthsOf(t *testing.T) {
	for w, want := range map[string]told{
		"11232": some("2111"), "1": some("1"), "9": some("1"), "22": some("2"), "1112": some("31"), "987654321": some("111111111"),
		strings.Repeat("4", 9): some("9"), strings.Repeat("4", 10): none, "1" + strings.Repeat("4", 10): none,
		strings.Repeat("4", 10) + "1": none, "12" + strings.Repeat("4", 9) + "5": some("1191"), strings.Repeat("4", 400): none,
		alternating(400): some(strings.Repeat("1", 400)), alternating(399) + "1": some(strings.Repeat("1", 398) + "2"),
		strings.Repeat("2", 200): none, strings.Repeat("1122", 100): some(strings.Repeat("2", 200)),
	} {
		if got := answer(impl.LengthsOf(w)); got != want {
			t.Errorf("lengths of %q: %v, want %v", w, got, want)
		}
	}
	for _, w := range sampleWords() {
		if got, want := answer(impl.LengthsOf(w)), plainLengths(w); got != want {
			t.Errorf("lengths of %q: %v, want %v", w, got, want)
		}
	}
}

func TestWordOfLengths(t *testing.T) {
	for _, c := range []struct {
		lengths string
		a, b    int
		want    told
	}{
		{"212", 1, 3, some("11311")}, {"212", 3, 1, some("33133")}, {"1", 9, 8, some("9")}, {"9", 2, 9, some("222222222")},
		{"19", 1, 9, some("1999999999")}, {"1111", 5, 4, some("5454")}, {"22", 2, 1, some("2211")},
		{strings.Repeat("1", 400), 1, 2, some(alternating(400))},
		{strings.Repeat("2", 200), 1, 2, some(strings.Repeat("1122", 100))},
		{strings.Repeat("2", 200), 2, 1, some(strings.Repeat("2211", 100))},
		{strings.Repeat("2", 199) + "3", 1, 2, none}, {strings.Repeat("2", 200) + "1", 1, 2, none}, {"1" + strings.Repeat("2", 200), 1, 2, none},
		{strings.Repeat("1", 399) + "2", 1, 2, none}, {strings.Repeat("9", 400), 1, 2, none},
		{strings.Repeat("8", 50), 6, 7, some(strings.Repeat("6666666677777777", 25))}, {strings.Repeat("8", 51), 6, 7, none},
		{strings.Repeat("9", 44) + "4", 1, 2, some(strings.Repeat("111111111222222222", 22) + "1111")},
		{strings.Repeat("9", 44) + "5", 1, 2, none},
	} {
		if got := answer(impl.WordOfLengths(c.lengths, c.a, c.b)); got != c.want {
			t.Errorf("word of %q with %d and %d: %v, want %v", c.lengths, c.a, c.b, got, c.want)
		}
	}
	for _, pair := range digitPairs() {
		if got, want := answer(impl.WordOfLengths("2132", pair[0], pair[1])), lettered("aabaaabb", pair); got != some(want) {
			t.Errorf("word of 2132 with %v: %v, want %s", pair, got, want)
		}
	}
}

// lettered puts digits where a text has a and b.
func lettered(text string, pair [2]int) string {
	return strings.NewReplacer("a", strconv.Itoa(pair[0]), "b", strconv.Itoa(pair[1])).Replace(text)
}

func TestWordsOfLengthsHaveTheseLengths(t *testing.T) {
	for _, lengths := range sampleWords() {
		sum := 0
		for _, run := range plainRuns(lengths) {
			sum += run[0] * run[1]
		}
		for _, pair := range [][2]int{{1, 2}, {2, 1}, {9, 3}, {4, 8}} {
			word, ok := impl.WordOfLengths(lengths, pair[0], pair[1])
			if ok != (sum <= 400) || !ok && word != "" {
				t.Errorf("word of %q with %v: %q, %v", lengths, pair, word, ok)
			}
			if !ok {
				continue
			}
			if got := answer(impl.LengthsOf(word)); got != some(lengths) || len(word) != sum {
				t.Errorf("word of %q with %v: %s, of which the lengths are %v", lengths, pair, word, got)
			}
			for at, run := range plainRuns(word) {
				if run[0] != pair[at%2] {
					t.Errorf("word of %q with %v: %s", lengths, pair, word)
				}
			}
		}
	}
	for length := 1; length <= 9; length++ {
		for _, w := range allTexts(length, 2) {
			lengths, _ := impl.LengthsOf(w)
			first := int(w[0] - '0')
			if got := answer(impl.WordOfLengths(lengths, first, 3-first)); got != some(w) {
				t.Errorf("%s has the lengths %s, from which there is %v", w, lengths, got)
			}
		}
	}
}

func TestOwnWord(t *testing.T) {
	for _, c := range []struct {
		a, b int
		want string
	}{
		{1, 2, kolakoski}, {2, 1, kolakoski[1:]}, {1, 3, "1333111333131333111333"}, {3, 1, "333111333131333111333"},
		{2, 3, "22332223332233223332"}, {3, 2, "33322233322332233322233322"}, {1, 9, "1" + strings.Repeat("999999999111111111", 4) + "999999999191919191"},
		{9, 1, strings.Repeat("999999999111111111", 4) + "999999999191919191"}, {2, 4, "224422224444"}, {4, 2, "44442222444422224422442244442222"},
		{9, 8, strings.Repeat("999999999888888888", 4) + "999999999" + "88888888" + "99999999"},
	} {
		if got := answer(impl.OwnWord(c.a, c.b, len(c.want))); got != some(c.want) {
			t.Errorf("own word of %d and %d: %v, want %s", c.a, c.b, got, c.want)
		}
	}
	for _, pair := range digitPairs() {
		whole := plainOwn(pair[0], pair[1], 400)
		for n := 1; n <= 400; n++ {
			if got := answer(impl.OwnWord(pair[0], pair[1], n)); got != some(whole[:n]) {
				t.Errorf("own word of %v, %d digits: %v, want %s", pair, n, got, whole[:n])
			}
		}
	}
}

// TestOwnWordsAreTheirOwnLengths leaves out the last run, which may go on behind the digits that are told.
func TestOwnWordsAreTheirOwnLengths(t *testing.T) {
	for _, pair := range digitPairs() {
		for n := 1; n <= 400; n++ {
			own, _ := impl.OwnWord(pair[0], pair[1], n)
			lengths, ok := impl.LengthsOf(own)
			if last := len(lengths) - 1; !ok || !strings.HasPrefix(own, lengths[:last]) || lengths[last] > own[last] {
				t.Errorf("own word of %v: %s, of which the lengths are %s, %v", pair, own, lengths, ok)
			}
			if int(own[0]-'0') != pair[0] {
				t.Errorf("own word of %v: %s", pair, own)
			}
			if word, ok := impl.WordOfLengths(own, pair[0], pair[1]); ok {
				if got := report(impl.IsOwnBeginning(word, pair[0], pair[1])); got != (verdict{true, true}) {
					t.Errorf("own word of %v: it begins with %s, and so does not %s: %v", pair, own, word, got)
				}
			}
		}
	}
}

// ownPlaces are numbers up to MaxOwn at which digits, counts and runs are compared.
func ownPlaces() []int {
	places := []int{99999, 100000, 65536, 65537, 399, 400, 401}
	for n := 1; n <= 30; n++ {
		places = append(places, n, n*n*40+n)
	}
	return places
}

func TestOwnDigitsCountsAndRuns(t *testing.T) {
	for _, pair := range [][2]int{{1, 2}, {2, 1}, {1, 9}, {9, 1}, {2, 3}, {3, 1}, {8, 9}, {5, 2}} {
		a, b := pair[0], pair[1]
		own := plainOwn(a, b, impl.MaxOwn)
		for _, n := range ownPlaces() {
			if got, want := count(impl.OwnDigit(a, b, n)), int(own[n-1]-'0'); got != (counted{want, true}) {
				t.Errorf("own digit %d of %v: %v, want %d", n, pair, got, want)
			}
			// As many digits are added as are needed to get to n.
			run, sum := 0, 0
			for sum < n {
				sum += int(own[run] - '0')
				run++
			}
			if got := count(impl.OwnRun(a, b, n)); got != (counted{run, true}) {
				t.Errorf("own run of digit %d of %v: %v, want %d", n, pair, got, run)
			}
			for digit := 1; digit <= 9; digit++ {
				want := strings.Count(own[:n], strconv.Itoa(digit))
				if got := count(impl.OwnCount(a, b, digit, n)); got != (counted{want, true}) {
					t.Errorf("digit %d among %d of %v: %v, want %d", digit, n, pair, got, want)
				}
			}
		}
	}
}

// TestKnownOwnCounts takes counts that are known of the own word of 1 and 2.
func TestKnownOwnCounts(t *testing.T) {
	for n, want := range map[int]int{1: 1, 2: 1, 3: 1, 4: 2, 10: 5, 100: 49, 1000: 502, 10000: 4996, 100000: 49972} {
		if got := count(impl.OwnCount(1, 2, 1, n)); got != (counted{want, true}) {
			t.Errorf("1 among %d: %v, want %d", n, got, want)
		}
		if got := count(impl.OwnCount(1, 2, 2, n)); got != (counted{n - want, true}) {
			t.Errorf("2 among %d: %v, want %d", n, got, n-want)
		}
	}
	if got := count(impl.OwnCount(2, 1, 2, 6)); got != (counted{3, true}) {
		t.Error("2 among the first six of 2 and 1:", got)
	}
}

func TestOwnDigitsAtTheEnds(t *testing.T) {
	for _, pair := range digitPairs() {
		a, b := pair[0], pair[1]
		own := plainOwn(a, b, impl.MaxOwn)
		runs := len(plainRuns(own))
		last := int(own[impl.MaxOwn-1] - '0')
		for _, c := range []struct{ n, digit, run int }{{1, a, 1}, {a, a, 1}, {a + 1, b, 2}, {impl.MaxOwn, last, runs}} {
			if got := count(impl.OwnDigit(a, b, c.n)); got != (counted{c.digit, true}) {
				t.Errorf("own digit %d of %v: %v, want %d", c.n, pair, got, c.digit)
			}
			if got := count(impl.OwnRun(a, b, c.n)); got != (counted{c.run, true}) {
				t.Errorf("own run of digit %d of %v: %v, want %d", c.n, pair, got, c.run)
			}
			if got := count(impl.OwnCount(a, b, a, c.n)); got != (counted{strings.Count(own[:c.n], strconv.Itoa(a)), true}) {
				t.Errorf("%d among %d of %v: %v", a, c.n, pair, got)
			}
		}
	}
}

func TestIsOwnBeginning(t *testing.T) {
	for _, c := range []struct {
		w    string
		a, b int
		want bool
	}{
		{"1", 1, 2, true}, {"2", 1, 2, false}, {"12", 1, 2, true}, {"11", 1, 2, false}, {"122112122", 1, 2, true}, {"122112121", 1, 2, false},
		{"22", 2, 1, true}, {"221121", 2, 1, true}, {"122", 2, 1, false}, {"222", 2, 1, false}, {"3", 1, 2, false}, {"13", 1, 2, false},
		{"13", 1, 3, true}, {"1333111", 1, 3, true}, {"9", 9, 1, true}, {"999999999", 9, 1, true}, {"9999999999", 9, 1, false},
		{"1" + strings.Repeat("9", 9), 1, 9, true}, {"1" + strings.Repeat("9", 10), 1, 9, false}, {strings.Repeat("1", 400), 1, 2, false},
		{kolakoski, 1, 2, true}, {kolakoski[1:], 2, 1, true}, {kolakoski, 2, 1, false}, {kolakoski, 1, 3, false},
	} {
		if got := report(impl.IsOwnBeginning(c.w, c.a, c.b)); got != (verdict{c.want, true}) {
			t.Errorf("own beginning %q of %d and %d: %v", c.w, c.a, c.b, got)
		}
	}
	for _, pair := range [][2]int{{1, 2}, {2, 1}, {1, 9}, {7, 3}} {
		own := plainOwn(pair[0], pair[1], 400)
		for n := 1; n <= 400; n++ {
			if got := report(impl.IsOwnBeginning(own[:n], pair[0], pair[1])); got != (verdict{true, true}) {
				t.Errorf("own beginning of %v, %d digits: %v", pair, n, got)
			}
			other := []byte(own)
			other[n-1] = byte('0'+pair[0]+pair[1]) - own[n-1] + '0'
			for _, length := range slices.Compact([]int{n, 400}) {
				if got := report(impl.IsOwnBeginning(string(other[:length]), pair[0], pair[1])); got != (verdict{false, true}) {
					t.Errorf("own beginning of %v, %d digits, other digit %d: %v", pair, length, n, got)
				}
			}
		}
	}
	for _, w := range sampleWords() {
		for _, pair := range digitPairs() {
			want := plainOwn(pair[0], pair[1], len(w)) == w
			if got := report(impl.IsOwnBeginning(w, pair[0], pair[1])); got != (verdict{want, true}) {
				t.Errorf("own beginning %q of %v: %v, want %v", w, pair, got, want)
			}
		}
	}
}
