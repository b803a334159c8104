package tests

import (
	"runtime"
	"slices"
	"strings"
	"testing"
	"time"

	"loop.example/g01240/impl"
)

// sentenceCalls holds each function of chapter 7 that takes a language and told numbers; what else they take is valid.
func sentenceCalls(l impl.Language, numbers []int) map[string][]any {
	all := func(results ...any) []any { return results }
	return map[string][]any{
		"SentenceOf":       all(impl.SentenceOf(l, numbers)),
		"CountLetters":     all(impl.CountLetters(l, numbers)),
		"IsTrueSentence":   all(impl.IsTrueSentence(l, numbers)),
		"LiesOf":           all(impl.LiesOf(l, numbers)),
		"CountAgain":       all(impl.CountAgain(l, numbers)),
		"WayOfCounting":    all(impl.WayOfCounting(l, numbers, 0)),
		"WayOfCounting 30": all(impl.WayOfCounting(l, numbers, 30)),
		"LoopOfCounting":   all(impl.LoopOfCounting(l, numbers)),
		"LengthOfSentence": all(impl.LengthOfSentence(l, numbers)),
		"TrueFrames":       all(impl.TrueFrames(l, numbers, 0)),
		"TrueFrames 2":     all(impl.TrueFrames(l, numbers, 2)),
	}
}

// languageCalls holds each other function of chapter 7 that takes a language.
func languageCalls(l impl.Language) map[string][]any {
	all := func(results ...any) []any { return results }
	return map[string][]any{
		"IsLanguage":      all(impl.IsLanguage(l)),
		"LanguageText":    all(impl.LanguageText(l)),
		"TrueSentences":   all(impl.TrueSentences(l, 1)),
		"TrueSentences 3": all(impl.TrueSentences(l, 3)),
		"CountTrue":       all(impl.CountTrue(l, 1)),
		"CountTrue 3":     all(impl.CountTrue(l, 3)),
		"FewestLies":      all(impl.FewestLies(l, 1)),
		"FewestLies 3":    all(impl.FewestLies(l, 3)),
	}
}

// sentenceNumberCalls holds each function of chapter 7 that takes a bounded number, for a language in which all told numbers lead on.
func sentenceNumberCalls(l impl.Language, numbers []int) []boundedCall {
	all := func(results ...any) []any { return results }
	return []boundedCall{
		{"TrueSentences", 1, 4, func(n int) []any { return all(impl.TrueSentences(l, n)) }, true},
		{"CountTrue", 1, 4, func(n int) []any { return all(impl.CountTrue(l, n)) }, true},
		{"FewestLies", 1, 4, func(n int) []any { return all(impl.FewestLies(l, n)) }, false},
		{"WayOfCounting", 0, 30, func(n int) []any { return all(impl.WayOfCounting(l, numbers, n)) }, false},
		{"TrueFrames", 0, 6, func(n int) []any { return all(impl.TrueFrames(l, numbers, n)) }, true},
	}
}

// noLanguages holds languages of which one part is wrong, and some that are wrong in all.
func noLanguages() []impl.Language {
	ten := strings.Split(tenLongNames, ",")
	languages := []impl.Language{
		{}, {Names: nil, Frame: "a"}, {Names: []string{}}, {Names: []string{}, Frame: "abcd"},
		{Names: append(slices.Clone(ten), "a")}, {Names: append(slices.Clone(ten), ten...)}, {Names: make([]string, 11)}, {Names: make([]string, 5000)},
		{Names: []string{""}}, {Names: []string{"a", ""}}, {Names: []string{"", "a"}}, {Names: []string{"a", "", "b"}}, {Names: make([]string, 10)},
		{Names: []string{"a", "a"}}, {Names: []string{"a", "b", "a"}}, {Names: append(slices.Clone(ten[:9]), ten[0])}, {Names: append(slices.Clone(ten[:9]), ten[8])},
		{Names: []string{"e"}, Frame: "e"}, {Names: []string{"", ""}, Frame: strings.Repeat("x", 21)},
	}
	for _, name := range []string{"aaaaaaaaa", "abcdabcda", strings.Repeat("ab", 500)} {
		languages = append(languages, impl.Language{Names: []string{name}}, impl.Language{Names: []string{"a", "b", name}}, impl.Language{Names: append([]string{name}, ten[:9]...)})
	}
	for _, frame := range []string{strings.Repeat("a", 21), strings.Repeat("abc", 7), strings.Repeat("d", 22), strings.Repeat("b", 5000)} {
		languages = append(languages, impl.Language{Names: []string{"a"}, Frame: frame}, impl.Language{Names: ten, Frame: frame})
	}
	for sign := range 256 {
		if sign < 'a' || sign > 'd' {
			for _, wrong := range []string{string([]byte{byte(sign)}), string([]byte{'a', byte(sign)}), string([]byte{byte(sign), 'b', 'c'}), string([]byte{'a', byte(sign), 'c'})} {
				languages = append(languages, impl.Language{Names: []string{wrong}}, impl.Language{Names: []string{"a", "b", wrong}}, impl.Language{Names: []string{wrong, "c"}}, impl.Language{Names: []string{"a", "b"}, Frame: wrong})
			}
		}
	}
	for _, wrong := range []string{"ä", "а", "a b", " a", "a ", "A", "aé", "ａ", "a\n", "a,b", "a:"} {
		languages = append(languages, impl.Language{Names: []string{wrong}}, impl.Language{Names: []string{"b"}, Frame: wrong})
	}
	return languages
}

// noTold holds lists that tell no numbers in a language of so many names.
func noTold(names int) [][]int {
	wrong := [][]int{nil, {}, {0, 0, 0, 0, 0}, make([]int, 6), make([]int, 1000)}
	for _, number := range append(slices.Clone(extremeNumbers), -2, names, names+1, 11, 1<<32+1, -1<<32) {
		if 0 <= number && number < names {
			continue
		}
		for letters := 1; letters <= 5; letters++ {
			for at := range letters {
				numbers := make([]int, letters)
				numbers[at] = number
				wrong = append(wrong, numbers)
			}
		}
	}
	return wrong
}

func TestConstantsOfChapter7(t *testing.T) {
	if impl.MaxNames != 10 || impl.MaxLetters != 4 {
		t.Errorf("MaxNames is %d, MaxLetters is %d", impl.MaxNames, impl.MaxLetters)
	}
}

func TestLanguagesThatAreNoneGiveZero(t *testing.T) {
	for _, l := range noLanguages() {
		for name, results := range languageCalls(l) {
			checkZero(t, name, l, results)
		}
		for _, numbers := range [][]int{{0}, {1}, {0, 0, 0, 0}, {2, 1}, {9}, {10}, {-1}, nil} {
			for name, results := range sentenceCalls(l, numbers) {
				checkZero(t, name, l, results)
			}
		}
		for _, n := range []int{least, -1, 0, 1, 4, 5, 7, 31, greatest} {
			for _, c := range sentenceNumberCalls(l, []int{0}) {
				checkZero(t, c.name, l, c.call(n))
			}
		}
	}
}

func TestNumbersThatAreNotToldGiveZero(t *testing.T) {
	for _, text := range []string{"a:", exampleLanguage, tenLongNames + ":", longLanguage} {
		l := language(text)
		for _, numbers := range noTold(len(l.Names)) {
			for name, results := range sentenceCalls(l, numbers) {
				checkZero(t, name, numbers, results)
			}
			for _, n := range []int{least, -1, 7, 31, greatest} {
				checkZero(t, "WayOfCounting", numbers, []any{digitLists(impl.WayOfCounting(l, numbers, n))})
				checkZero(t, "TrueFrames", numbers, []any{list(impl.TrueFrames(l, numbers, n))})
			}
		}
	}
}

func TestNumbersOfChapter7AreBounded(t *testing.T) {
	for _, numbers := range [][]int{{0}, {9}, {5}} {
		checkBounds(t, sentenceNumberCalls(language(longLanguage), numbers), append(slices.Clone(extremeNumbers), -30, -6, -2, 3, 4, 5, 6, 7, 8, 29, 30, 31, 32, 60, 1<<32+1, 1<<40+5, 1<<62, -1<<31, -1<<32+1))
	}
}

func TestFailedCallsOfChapter7GiveZero(t *testing.T) {
	mayFail := []string{"CountAgain", "WayOfCounting 30", "LoopOfCounting"}
	for _, text := range knownLanguages() {
		l := language(text)
		for _, numbers := range someTold(l) {
			for name, results := range sentenceCalls(l, numbers) {
				if results[len(results)-1].(bool) {
					continue
				}
				checkZero(t, name, numbers, results)
				if !slices.Contains(mayFail, name) {
					t.Errorf("%s of %s, %v fails", name, text, numbers)
				}
			}
		}
		for name, results := range languageCalls(l) {
			if !results[len(results)-1].(bool) {
				t.Errorf("%s of %s fails", name, text)
			}
		}
	}
}

func TestTextsThatAreNoLanguages(t *testing.T) {
	texts := []string{
		"", ":", "::", ",", ",:", "a", "a,b", "a,b,ab,ba,c", "a::", "a:b:", ":a:", "a:b:c", "a,b:c:d", ":a", ":a,b", "a:,", "a:b,c", "a:,b",
		",a:", "a,:", "a,,b:", "a,b,:c", "a,a:", "a,b,a:", "e:", "a:e", "A:", "a:A", " a:", "a :", "a: ", "a, b:", "a,b :", "a:b ", "a:\n", "a\n:", "\na:",
		"a;b:", "a.b:", "1:", "0,1:", "ä:", "а:", "a:ä", "a\x00:", "a:\x00", "\x80:", "a:\xff", "a,b：", "aaaaaaaaa:", "a,aaaaaaaaa:", "a:" + strings.Repeat("a", 21),
		tenLongNames + ",a:", tenLongNames + "," + tenLongNames + ":", strings.Repeat(",", 9) + ":", strings.Repeat("a,", 5000) + ":", strings.Repeat(":", 5000), strings.Repeat("ab", 5000),
	}
	for _, text := range texts {
		if l, ok := impl.ParseLanguage(text); ok || l.Names != nil || l.Frame != "" {
			t.Errorf("ParseLanguage of %q: %q, %v", text, l, ok)
		}
	}
}

// TestChangedTextsOfLanguages has one sign more, less, or another one. What is read then is what the text says.
func TestChangedTextsOfLanguages(t *testing.T) {
	for _, text := range []string{exampleLanguage, "a:", "ab,cd:dcba", tenLongNames + ":abcdabcdabcdabcdabcd"} {
		for at := range len(text) + 1 {
			changed := []string{text[:at]}
			for _, sign := range []string{"a", "d", "e", ",", ":", " ", "A", "\x00"} {
				changed = append(changed, text[:at]+sign+text[at:])
				if at < len(text) {
					changed = append(changed, text[:at]+sign+text[at+1:], text[:at]+text[at+1:])
				}
			}
			for _, other := range changed {
				l, ok := impl.ParseLanguage(other)
				want := strings.Contains(other, ":") && impl.IsLanguage(language(other))
				if ok != want || ok && answer(impl.LanguageText(l)) != some(other) || !ok && (l.Names != nil || l.Frame != "") {
					t.Errorf("ParseLanguage of %q: %q, %v, want %v", other, l, ok, want)
				}
			}
		}
	}
}

// TestLanguagesAndToldNumbersAreLeftAlone lays room behind both, which no call may read or write.
func TestLanguagesAndToldNumbersAreLeftAlone(t *testing.T) {
	for _, text := range append([]string{"a:", exampleLanguage, tenLongNames + ":", longLanguage}, mixedLanguages()...) {
		plain := language(text)
		names := append(slices.Clone(plain.Names), "", "a", "x", "a")
		l := impl.Language{Names: names[:len(plain.Names)], Frame: plain.Frame}
		for at, numbers := range someTold(plain) {
			if at%11 != 0 {
				continue
			}
			room := append(slices.Clone(numbers), 0, 1, 77, -1)
			before := slices.Clone(room)
			got, want := sentenceCalls(l, room[:len(numbers)]), sentenceCalls(plain, numbers)
			if !slices.Equal(room, before) {
				t.Fatalf("a call changed the numbers %v or the room behind them: %v", numbers, room)
			}
			for name, results := range got {
				if !sameTexts(results, want[name]) {
					t.Errorf("%s of %s, %v depends on the room: %v, want %v", name, text, numbers, results, want[name])
				}
			}
		}
		got, want := languageCalls(l), languageCalls(plain)
		for name, results := range got {
			if !sameTexts(results, want[name]) {
				t.Errorf("%s of %s depends on the room: %v, want %v", name, text, results, want[name])
			}
		}
		if !slices.Equal(names, append(slices.Clone(language(text).Names), "", "a", "x", "a")) {
			t.Errorf("a call changed the names of %s: %q", text, names)
		}
	}
}

// sameTexts reports whether results are the same, where some may be lists of texts.
func sameTexts(results []any, others []any) bool {
	joined := func(results []any) []any {
		made := []any{}
		for _, result := range results {
			if texts, ok := result.([]string); ok {
				result = strings.Join(texts, ",") + strings.Repeat(";", len(texts))
			}
			made = append(made, result)
		}
		return made
	}
	return sameResults(joined(results), joined(others))
}

func TestListsOfChapter7ShareNoMemory(t *testing.T) {
	l := language(exampleLanguage)
	one := func(numbers []int, _ bool) [][]int { return [][]int{numbers} }
	// The room behind the argument would be noticed, too.
	argument := append(make([]int, 0, 8), 3, 3)
	checkNoneShared(t, argument[:cap(argument)], map[string]func() [][]int{
		"CountLetters":    func() [][]int { return one(impl.CountLetters(l, argument)) },
		"CountAgain":      func() [][]int { return one(impl.CountAgain(l, argument)) },
		"WayOfCounting":   func() [][]int { way, _ := impl.WayOfCounting(l, argument, 5); return way },
		"WayOfCounting 0": func() [][]int { way, _ := impl.WayOfCounting(l, argument, 0); return way },
		"TrueSentences":   func() [][]int { lists, _ := impl.TrueSentences(l, 1); return lists },
		"TrueSentences 4": func() [][]int {
			lists, _ := impl.TrueSentences(language("c,d,cc,cd,dc,dd,ccc,ccd,cdc,cdd:abab"), 4)
			return lists
		},
		"FewestLies": func() [][]int { numbers, _, _ := impl.FewestLies(l, 2); return [][]int{numbers} },
	})
}

// TestTextsOfChapter7AreNew writes over the names and frames of one answer: no other one changes.
func TestTextsOfChapter7AreNew(t *testing.T) {
	first, _ := impl.ParseLanguage(exampleLanguage)
	second, _ := impl.ParseLanguage(exampleLanguage)
	clear(first.Names[:cap(first.Names)])
	if again := answer(impl.LanguageText(second)); again != some(exampleLanguage) {
		t.Errorf("another language changed: %v", again)
	}
	frames, _ := impl.TrueFrames(second, []int{1}, 3)
	want := slices.Clone(frames)
	clear(frames[:cap(frames)])
	if again, ok := impl.TrueFrames(second, []int{1}, 3); !ok || len(want) == 0 || !slices.Equal(again, want) {
		t.Errorf("TrueFrames told something else the second time: %v, want %v", again, want)
	}
}

// TestNothingRunsOnBehindTheCalls asks above all where the first told numbers are true already, so that no others are wanted.
func TestNothingRunsOnBehindTheCalls(t *testing.T) {
	before := runtime.NumGoroutine()
	for range 50 {
		for _, text := range []string{"a:", exampleLanguage, longLanguage, "c,d,cc:a", "b,c,d:", "aaaaaaaa,c,b:"} {
			l := language(text)
			for letters := 1; letters <= 4; letters++ {
				impl.FewestLies(l, letters)
			}
			impl.TrueSentences(l, 2)
			impl.TrueFrames(l, []int{0}, 2)
		}
	}
	// One that has told that it is through may take a moment to be gone.
	for range 200 {
		if runtime.NumGoroutine() <= before {
			return
		}
		time.Sleep(10 * time.Millisecond)
	}
	t.Errorf("%d goroutines, before the calls %d", runtime.NumGoroutine(), before)
}

// TestSentencesBesideEachOther asks at the same time: what one call tells is none of the others' business.
func TestSentencesBesideEachOther(t *testing.T) {
	type reply struct {
		text   string
		lists  listed
		lowest withLies
	}
	ask := func(text string) reply {
		l := language(text)
		return reply{text, digitLists(impl.TrueSentences(l, 3)), fewest(impl.FewestLies(l, 3))}
	}
	replies := make(chan reply)
	for _, text := range knownLanguages() {
		go func() { replies <- ask(text) }()
	}
	for range knownLanguages() {
		if got := <-replies; got != ask(got.text) {
			t.Errorf("sentences of %s: %v, want %v", got.text, got, ask(got.text))
		}
	}
}
