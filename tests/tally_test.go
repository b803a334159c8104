package tests

import (
	"slices"
	"strconv"
	"strings"
	"testing"

	"loop.example/g01240/impl"
)

// plainInventory tells the inventory of a word, or that there is none.
func plainInventory(w string) told {
	text := ""
	for _, digit := range strings.Split("123456789", "") {
		switch n := strings.Count(w, digit); {
		case n > 9:
			return none
		case n > 0:
			text += strconv.Itoa(n) + digit
		}
	}
	return some(text)
}

// plainWay follows a change from what is first on until one comes again. It returns all of them and where that one was before.
func plainWay(first string, change func(string) told) ([]string, int, bool) {
	places, way := map[string]int{}, []string{}
	for next := some(first); next.ok; next = change(next.text) {
		if place, before := places[next.text]; before {
			return way, place, true
		}
		places[next.text] = len(way)
		way = append(way, next.text)
	}
	return nil, 0, false
}

// loop is the answer of a call that tells the lengths of a tail and of a loop.
type loop struct {
	tail, loop int
	ok         bool
}

func ends(tail int, length int, ok bool) loop { return loop{tail, length, ok} }

// nineTimes has each digit so often that its own inventory has one of them ten times.
var nineTimes = strings.Repeat("123456789", 3)

func tallyWords() []string {
	words := append(sampleWords(), nineTimes, "123456789", "987654321", strings.Repeat("123456789", 9),
		strings.Repeat("1", 9), strings.Repeat("1", 10), strings.Repeat("9", 9), strings.Repeat("9", 10),
		strings.Repeat("12", 9), strings.Repeat("12", 9)+"1", strings.Repeat("12", 9)+"2", strings.Repeat("7", 400),
		"21322314", "3122331416", "31121314", "111116", "111117", "412223241516", "314213241516", "41421314251617")
	for length := 1; length <= 6; length++ {
		words = append(words, allTexts(length, 4)...)
	}
	return words
}

func TestCountsOf(t *testing.T) {
	for w, want := range map[string]string{
		"1":                                "1 0 0 0 0 0 0 0 0",
		"9":                                "0 0 0 0 0 0 0 0 1",
		"1112":                             "3 1 0 0 0 0 0 0 0",
		"9876543211":                       "2 1 1 1 1 1 1 1 1",
		strings.Repeat("5", 10):            "0 0 0 0 10 0 0 0 0",
		strings.Repeat("8", 400):           "0 0 0 0 0 0 0 400 0",
		strings.Repeat("3", 399) + "2":     "0 1 399 0 0 0 0 0 0",
		strings.Repeat("4567", 100):        "0 0 0 100 100 100 100 0 0",
		strings.Repeat("123456789", 44):    "44 44 44 44 44 44 44 44 44",
		strings.Repeat("1", 256):           "256 0 0 0 0 0 0 0 0",
		strings.Repeat("21", 150) + "9999": "150 150 0 0 0 0 0 0 4",
	} {
		if got := list(impl.CountsOf(w)); got != someList(want) {
			t.Errorf("counts of %q: %v, want %s", w, got, want)
		}
	}
	for _, w := range tallyWords() {
		counts, ok := impl.CountsOf(w)
		if !ok || len(counts) != 9 {
			t.Fatalf("counts of %q: %v, %v", w, counts, ok)
		}
		for at, got := range counts {
			if want := strings.Count(w, strconv.Itoa(at+1)); got != want {
				t.Errorf("count %d of %q: %d, want %d", at+1, w, got, want)
			}
		}
	}
}

func TestInventoryOf(t *testing.T) {
	for w, want := range map[string]told{
		"1":                            some("11"),
		"9":                            some("19"),
		"1112":                         some("3112"),
		"3112":                         some("211213"),
		"22":                           some("22"),
		"21322314":                     some("21322314"),
		"91":                           some("1119"),
		strings.Repeat("1", 9):         some("91"),
		strings.Repeat("1", 10):        none,
		strings.Repeat("31", 9):        some("9193"),
		strings.Repeat("31", 9) + "1":  none,
		strings.Repeat("31", 9) + "3":  none,
		strings.Repeat("6", 10) + "1":  none,
		strings.Repeat("6", 11) + "7":  none,
		strings.Repeat("987654321", 9): some("919293949596979899"),
		strings.Repeat("9", 400):       none,
		alternating(400):               none,
		"123456789":                    some("111213141516171819"),
		"111213141516171819":           none,
	} {
		if got := answer(impl.InventoryOf(w)); got != want {
			t.Errorf("inventory of %q: %v, want %v", w, got, want)
		}
	}
	for _, w := range tallyWords() {
		if got, want := answer(impl.InventoryOf(w)), plainInventory(w); got != want {
			t.Errorf("inventory of %q: %v, want %v", w, got, want)
		}
	}
}

func TestWayOfInventory(t *testing.T) {
	for times, want := range []string{"1112", "1112 3112", "1112 3112 211213", "1112 3112 211213 312213"} {
		if got := list(impl.WayOfInventory("1112", times)); got != someList(want) {
			t.Errorf("way of 1112, %d times: %v", times, got)
		}
	}
	for _, w := range tallyWords() {
		way, next := []string{}, some(w)
		for times := range 41 {
			if next.ok {
				way = append(way, next.text)
				next = plainInventory(next.text)
			}
			want := listed{}
			if len(way) > times {
				want = list(way, true)
			}
			if got := list(impl.WayOfInventory(w, times)); got != want {
				t.Errorf("way of %q, %d times: %v, want %v", w, times, got, want)
			}
		}
	}
}

func TestWaysThatBreakOff(t *testing.T) {
	for w, most := range map[string]int{
		strings.Repeat("1", 10):        0,
		strings.Repeat("4", 400):       0,
		alternating(19):                0,
		"111213141516171819":           0,
		"123456789":                    1,
		nineTimes:                      1,
		strings.Repeat("123456789", 9): 1,
		strings.Repeat("1", 9):         40,
		"1":                            40,
		"22":                           40,
	} {
		for times := range 41 {
			want := times <= most
			if way, ok := impl.WayOfInventory(w, times); ok != want || ok && len(way) != times+1 || !ok && len(way) != 0 {
				t.Errorf("way of %q, %d times: %v, %v", w, times, way, ok)
			}
		}
		isLoop := most == 40
		if got := ends(impl.LoopOfInventory(w)); got.ok != isLoop || !isLoop && got != (loop{}) {
			t.Errorf("loop of %q: %v", w, got)
		}
		if got := list(impl.LoopWords(w)); got.ok != isLoop || !isLoop && got != (listed{}) {
			t.Errorf("words of the loop of %q: %v", w, got)
		}
	}
}

func TestLoopOfInventory(t *testing.T) {
	for w, want := range map[string]loop{
		"1":              {12, 1, true},
		"22":             {0, 1, true},
		"21322314":       {0, 1, true},
		"111116":         {9, 2, true},
		"412223241516":   {0, 2, true},
		"314213241516":   {0, 2, true},
		"615142321422":   {1, 2, true},
		"111117":         {10, 3, true},
		"41421314251617": {0, 3, true},
	} {
		if got := ends(impl.LoopOfInventory(w)); got != want {
			t.Errorf("loop of %q: %v, want %v", w, got, want)
		}
	}
	for w, want := range map[string]string{
		"1":              "21322314",
		"22":             "22",
		"2":              "21322314",
		"111116":         "412223241516 314213241516",
		"314213241516":   "314213241516 412223241516",
		"111117":         "51222314251617 41421314251617 51221334151617",
		"41421314251617": "41421314251617 51221334151617 51222314251617",
	} {
		if got := list(impl.LoopWords(w)); got != someList(want) {
			t.Errorf("words of the loop of %q: %v, want %s", w, got, want)
		}
	}
	for _, w := range tallyWords() {
		way, tail, ok := plainWay(w, plainInventory)
		if got, want := ends(impl.LoopOfInventory(w)), (loop{tail, len(way) - tail, ok}); got != want {
			t.Errorf("loop of %q: %v, want %v", w, got, want)
		}
		if got, want := list(impl.LoopWords(w)), list(way[tail:], ok); got != want {
			t.Errorf("words of the loop of %q: %v, want %v", w, got, want)
		}
	}
}

// TestInventoriesEndInLoops follows the calls alone: behind the tail the words of the loop come, and come again.
func TestInventoriesEndInLoops(t *testing.T) {
	for _, w := range tallyWords() {
		tail, length, ok := impl.LoopOfInventory(w)
		words, wordsOk := impl.LoopWords(w)
		if ok != wordsOk || len(words) != length || ok && length == 0 {
			t.Fatalf("loop of %q: %d, %v, words %v, %v", w, length, ok, words, wordsOk)
		}
		if !ok {
			continue
		}
		way, ok := impl.WayOfInventory(w, tail+2*length)
		if !ok || !slices.Equal(way[tail:tail+length], words) || !slices.Equal(way[tail+length:tail+2*length], words) || way[tail+2*length] != words[0] {
			t.Errorf("way of %q: %v, %v, words of the loop %v", w, way, ok, words)
		}
		if known := slices.Compact(slices.Sorted(slices.Values(way[:tail+length]))); len(known) != tail+length {
			t.Errorf("way of %q: a word comes again too early: %v", w, way)
		}
		for at, word := range words {
			if next := answer(impl.InventoryOf(word)); next != some(words[(at+1)%length]) {
				t.Errorf("loop of %q: behind %s: %v", w, word, next)
			}
			if got := report(impl.IsOwnInventory(word)); got != (verdict{length == 1, true}) {
				t.Errorf("loop of %q: own inventory %s: %v", w, word, got)
			}
		}
	}
}

func TestIsOwnInventory(t *testing.T) {
	for w, want := range map[string]bool{
		"22": true, "21322314": true, "31123314": true, "3122331415": true, "31331415": true, "21322317": true, "31123319": true,
		"1": false, "2": false, "11": false, "21": false, "2222": false, "1112": false, "3112": false, "412223241516": false,
		"22213213": false, "13223124": false, "31221324": false, "222": false, "122": false, "91": false,
		"21322315": true, "14322321": false, "22" + strings.Repeat("2", 10): false, strings.Repeat("22", 200): false,
		"111213141516171819": false, strings.Repeat("3", 400): false,
	} {
		if got := report(impl.IsOwnInventory(w)); got != (verdict{want, true}) {
			t.Errorf("own inventory %q: %v, want %v", w, got, want)
		}
	}
	for _, w := range tallyWords() {
		if got, want := report(impl.IsOwnInventory(w)), plainInventory(w) == some(w); got != (verdict{want, true}) {
			t.Errorf("own inventory %q: %v, want %v", w, got, want)
		}
	}
}

// sortedTexts lists all texts of a length of digits up to a number whose digits never become less; the sign behind 9 counts as digit 10.
func sortedTexts(length int, digits int) []string {
	switch {
	case length == 0:
		return []string{""}
	case digits == 0:
		return nil
	}
	texts := sortedTexts(length, digits-1)
	for _, shorter := range sortedTexts(length-1, digits) {
		texts = append(texts, shorter+string([]byte{byte('0' + digits)}))
	}
	return texts
}

func TestAllOwn(t *testing.T) {
	for digits, want := range map[int]string{
		1: "",
		2: "22",
		3: "22",
		4: "21322314 22 31123314",
		5: "21322314 21322315 22 31123314 31123315 3122331415 31331415",
	} {
		if got := list(impl.AllOwn(digits)); got != someList(want) {
			t.Errorf("own inventories up to %d: %v, want %s", digits, got, want)
		}
	}
	for digits := 1; digits <= 6; digits++ {
		// An inventory depends only on how often each digit is there, so words in which they are sorted lead to all.
		own := []string{}
		for length := 2; length <= 2*digits; length += 2 {
			for _, w := range sortedTexts(length, digits) {
				made := plainInventory(w)
				if made.ok && plainInventory(made.text) == made && int(slices.Max([]byte(made.text))-'0') <= digits {
					own = append(own, made.text)
				}
			}
		}
		slices.Sort(own)
		if got, want := list(impl.AllOwn(digits)), list(slices.Compact(own), true); got != want {
			t.Errorf("own inventories up to %d: %v, want %v", digits, got, want)
		}
	}
}

func TestIsInventory(t *testing.T) {
	for w, want := range map[string]bool{
		"11": true, "22": true, "91": true, "99": true, "1112": true, "3112": true, "211213": true, "919293949596979899": true,
		"111213141516171819": true, "21322314": true, "1119": true, "9899": true,
		"1": false, "111": false, "1211": false, "1111": false, "2222": false, "1212": false, "11121": false, "131211": false, "111312": false,
		"1112131415161718191": false, "11121314151617181919": false, "111213141516171819" + "11": false,
		strings.Repeat("12", 200): false, strings.Repeat("1", 400): false, strings.Repeat("3", 399): false,
	} {
		if got := report(impl.IsInventory(w)); got != (verdict{want, true}) {
			t.Errorf("inventory %q: %v, want %v", w, got, want)
		}
	}
	for _, w := range tallyWords() {
		// What a word would tell is told by as many digits in a row.
		heard := ""
		for at := 0; at+1 < len(w); at += 2 {
			heard += strings.Repeat(w[at+1:at+2], int(w[at]-'0'))
		}
		if got, want := report(impl.IsInventory(w)), plainInventory(heard) == some(w); got != (verdict{want, true}) {
			t.Errorf("inventory %q: %v, want %v", w, got, want)
		}
		if made := answer(impl.InventoryOf(w)); made.ok {
			if got := report(impl.IsInventory(made.text)); got != (verdict{true, true}) {
				t.Errorf("inventory %q of %q: %v", made.text, w, got)
			}
		}
	}
}

func TestHearInventory(t *testing.T) {
	for w, want := range map[string]listed{
		"11":                 someList("1"),
		"22":                 someList("22"),
		"19":                 someList("9"),
		"79":                 someList("9999999"),
		"89":                 {},
		"99":                 {},
		"1112":               someList("12 21"),
		"3112":               someList("1112 1121 1211 2111"),
		"2123":               someList("1133 1313 1331 3113 3131 3311"),
		"1121":               {},
		"2211":               {},
		"1111":               {},
		"111213":             someList("123 132 213 231 312 321"),
		"517119":             {},
		"511217":             someList(strings.Join(placesOf("27", "11111"), " ")),
		"511227":             {},
		"611219":             {},
		"71":                 someList("1111111"),
		"4132":               someList(strings.Join(placesOf("222", "1111"), " ")),
		"4142":               {},
		"11121314":           {},
		"21322314":           {},
		"1":                  {},
		"111":                {},
		"111213141516171819": {},
	} {
		if got := list(impl.HearInventory(w)); got != want {
			t.Errorf("heard of %q: %v, want %v", w, got, want)
		}
	}
	heard := map[string][]string{}
	for length := 1; length <= 7; length++ {
		for _, w := range allTexts(length, 4) {
			heard[plainInventory(w).text] = append(heard[plainInventory(w).text], w)
		}
	}
	for length := 1; length <= 8; length++ {
		for _, w := range allTexts(length, 4) {
			words, ok := heard[w]
			ok = ok && len(w) <= 6
			slices.Sort(words)
			if got, want := list(impl.HearInventory(w)), list(words, ok); got != want && (ok || got != (listed{})) {
				t.Errorf("heard of %q: %v, want %v", w, got, want)
			}
		}
	}
}

// placesOf lists, in the order of texts, all texts of the first signs in any order among so many equal second ones.
func placesOf(signs string, among string) []string {
	texts := map[string]bool{among: true}
	for at := range len(signs) {
		more := map[string]bool{}
		for text := range texts {
			for place := range len(text) + 1 {
				more[text[:place]+signs[at:at+1]+text[place:]] = true
			}
		}
		texts = more
	}
	list := []string{}
	for text := range texts {
		list = append(list, text)
	}
	slices.Sort(list)
	return list
}

// TestWordsHeardHaveThatInventory takes all inventories of three pairs at most.
func TestWordsHeardHaveThatInventory(t *testing.T) {
	ways := []int{1, 1, 2, 6, 24, 120, 720, 5040}
	for length := 2; length <= 6; length += 2 {
		for _, w := range allTexts(length, 9) {
			sum, count := 0, 1
			for at := 0; at < length; at += 2 {
				sum += int(w[at] - '0')
			}
			words, ok := impl.HearInventory(w)
			if is, _ := impl.IsInventory(w); ok != (is && sum <= 7) {
				t.Fatalf("heard of %q: %v, %v", w, words, ok)
			}
			if !ok {
				continue
			}
			for at := 0; at < length; at += 2 {
				count *= ways[w[at]-'0']
			}
			if len(words) != ways[sum]/count || !slices.IsSorted(words) || len(slices.Compact(slices.Clone(words))) != len(words) {
				t.Errorf("heard of %q: %v", w, words)
			}
			for _, word := range words {
				if got := answer(impl.InventoryOf(word)); got != some(w) {
					t.Errorf("heard of %q: %q, of which the inventory is %v", w, word, got)
				}
			}
		}
	}
}
