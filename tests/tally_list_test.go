package tests

import (
	"slices"
	"strconv"
	"strings"
	"testing"

	"loop.example/g01240/impl"
)

// numbersOf makes the list of numbers that a text of digits tells.
func numbersOf(text string) []int {
	numbers := []int{}
	for at := range len(text) {
		numbers = append(numbers, int(text[at]-'0'))
	}
	return numbers
}

// digits is the answer of a call that tells a list of numbers of one digit each, as one text.
func digits(numbers []int, ok bool) told {
	text := ""
	for _, number := range numbers {
		text += strconv.Itoa(number)
	}
	return told{text, ok}
}

// digitLists is the answer of a call that tells lists of such numbers.
func digitLists(lists [][]int, ok bool) listed {
	texts := []string{}
	for _, numbers := range lists {
		texts = append(texts, digits(numbers, true).text)
	}
	return listed{strings.Join(texts, " "), ok}
}

// plainTell tells a list that is written as a text of digits.
func plainTell(text string) string {
	said := ""
	for number := range len(text) {
		said += strconv.Itoa(strings.Count(text, strconv.Itoa(number)))
	}
	return said
}

// toldLists holds all told lists of up to five numbers, and some of each greater length, as texts of digits.
func toldLists() []string {
	texts := []string{}
	for n := 1; n <= 5; n++ {
		for _, text := range allTexts(n, n+1) {
			texts = append(texts, lowered(text))
		}
	}
	mixed := uint32(1)
	for n := 6; n <= 9; n++ {
		signs := "0123456789"[:n+1]
		for range 2000 {
			text := []byte{}
			for range n {
				mixed = mixed*1664525 + 1013904223
				text = append(text, signs[int(mixed>>16)%(n+1)])
			}
			texts = append(texts, string(text))
		}
		texts = append(texts, strings.Repeat("0", n), strings.Repeat(signs[n:], n), signs[:n], signs[1:], signs[n:]+strings.Repeat("0", n-1))
	}
	return texts
}

// lowered makes each digit less by one.
func lowered(text string) string {
	signs := []byte(text)
	for at := range signs {
		signs[at]--
	}
	return string(signs)
}

func TestTellList(t *testing.T) {
	for text, want := range map[string]string{
		"000": "300", "300": "200", "200": "201", "201": "111", "111": "030", "030": "200",
		"0": "1", "1": "0",
		"00": "20", "20": "10", "10": "11", "11": "02", "02": "10", "22": "00", "12": "01", "21": "01",
		"1210": "1210", "2020": "2020", "21200": "21200", "4444": "0000", "0000": "4000", "4000": "3000",
		"999999999": "000000000", "000000000": "900000000", "900000000": "800000000", "800000000": "800000001",
		"123456789": "011111111", "012345678": "111111111", "521001000": "521001000", "888888888": "000000009",
	} {
		if got := digits(impl.TellList(numbersOf(text))); got != some(want) {
			t.Errorf("told of %s: %v, want %s", text, got, want)
		}
	}
	for _, text := range toldLists() {
		if got, want := digits(impl.TellList(numbersOf(text))), some(plainTell(text)); got != want {
			t.Errorf("told of %s: %v, want %v", text, got, want)
		}
	}
}

func TestIsSelfTold(t *testing.T) {
	for text, want := range map[string]bool{
		"1210": true, "2020": true, "21200": true, "3211000": true, "42101000": true, "521001000": true,
		"0": false, "1": false, "00": false, "20": false, "11": false, "201": false, "0121": false, "2002": false, "1201": false,
		"12100": false, "2120": false, "999999999": false, "000000000": false, "5210010": false,
	} {
		if got := report(impl.IsSelfTold(numbersOf(text))); got != (verdict{want, true}) {
			t.Errorf("self-told %s: %v, want %v", text, got, want)
		}
	}
	for _, text := range toldLists() {
		if got, want := report(impl.IsSelfTold(numbersOf(text))), plainTell(text) == text; got != (verdict{want, true}) {
			t.Errorf("self-told %s: %v, want %v", text, got, want)
		}
	}
}

func TestAllSelfTold(t *testing.T) {
	for n, want := range []string{1: "", 2: "", 3: "", 4: "1210 2020", 5: "21200", 6: "", 7: "3211000", 8: "42101000", 9: "521001000"} {
		if n == 0 {
			continue
		}
		if got := digitLists(impl.AllSelfTold(n)); got != someList(want) {
			t.Errorf("self-told lists of %d: %v, want %s", n, got, want)
		}
		if got := count(impl.CountSelfTold(n)); got != (counted{len(strings.Fields(want)), true}) {
			t.Errorf("count of self-told lists of %d: %v", n, got)
		}
		// What is told depends only on how often each number is there, so lists in which they are sorted lead to all.
		plain := []string{}
		for _, sorted := range sortedTexts(n, n+1) {
			if text := plainTell(lowered(sorted)); plainTell(text) == text {
				plain = append(plain, text)
			}
		}
		slices.Sort(plain)
		if got := strings.Join(slices.Compact(plain), " "); got != want {
			t.Errorf("plain self-told lists of %d: %s, want %s", n, got, want)
		}
	}
}

func TestWayOfTelling(t *testing.T) {
	way := []string{"000", "300", "200", "201", "111", "030", "200", "201"}
	for times := range way {
		if got, want := digitLists(impl.WayOfTelling([]int{0, 0, 0}, times)), list(way[:times+1], true); got != want {
			t.Errorf("way of 000, %d times: %v, want %v", times, got, want)
		}
	}
	for _, text := range toldLists() {
		way := []string{text}
		for len(way) < 41 {
			way = append(way, plainTell(way[len(way)-1]))
		}
		for _, times := range []int{0, 1, 2, 7, 39, 40} {
			if got, want := digitLists(impl.WayOfTelling(numbersOf(text), times)), list(way[:times+1], true); got != want {
				t.Errorf("way of %s, %d times: %v, want %v", text, times, got, want)
			}
		}
	}
}

func TestLoopOfTelling(t *testing.T) {
	for text, want := range map[string]loop{
		"000": {2, 4, true}, "200": {0, 4, true}, "030": {0, 4, true}, "300": {1, 4, true},
		"0": {0, 2, true}, "1": {0, 2, true},
		"1210": {0, 1, true}, "2020": {0, 1, true}, "2002": {1, 1, true}, "21200": {0, 1, true},
		"521001000": {0, 1, true}, "000000000": {7, 2, true}, "530000100": {0, 2, true},
	} {
		if got := ends(impl.LoopOfTelling(numbersOf(text))); got != want {
			t.Errorf("loop of %s: %v, want %v", text, got, want)
		}
	}
	for _, text := range toldLists() {
		way, tail, _ := plainWay(text, func(before string) told { return some(plainTell(before)) })
		if got, want := ends(impl.LoopOfTelling(numbersOf(text))), (loop{tail, len(way) - tail, true}); got != want {
			t.Errorf("loop of %s: %v, want %v", text, got, want)
		}
	}
}

// TestTellingEndsInLoops follows the calls alone.
func TestTellingEndsInLoops(t *testing.T) {
	for _, text := range toldLists() {
		tail, length, ok := impl.LoopOfTelling(numbersOf(text))
		if !ok || length < 1 || tail+length > 40 {
			t.Fatalf("loop of %s: %d, %d, %v", text, tail, length, ok)
		}
		way, ok := impl.WayOfTelling(numbersOf(text), tail+length)
		if !ok || !slices.Equal(way[tail], way[tail+length]) {
			t.Errorf("way of %s: %v, %v, tail %d, loop %d", text, way, ok, tail, length)
		}
		for at := range tail + length {
			if again := slices.IndexFunc(way, func(before []int) bool { return slices.Equal(before, way[at]) }); again != at {
				t.Errorf("way of %s: a list comes again too early: %v", text, way)
			}
		}
		if got := report(impl.IsSelfTold(way[tail])); got != (verdict{length == 1, true}) {
			t.Errorf("self-told %v behind %s: %v", way[tail], text, got)
		}
	}
}
