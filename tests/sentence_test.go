package tests

import (
	"slices"
	"strings"
	"testing"

	"loop.example/g01240/impl"
)

// Languages in which told numbers of one letter lead on in known ways.
const (
	// In exampleLanguage, 2 and 2 are counted 3 and 3, which are true.
	exampleLanguage = "a,b,ab,ba,c:"
	// Of a, 0 is counted 1, and 1 and 2 are counted in turn.
	turnLanguage = "c,a,b:"
	// Each number is counted one more, up to 9, which is counted 1.
	longLanguage = "b,a,aa,aaa,aaaa,aaaaa,aaaaaa,aaaaaaa,aaaaaaaa,c:"
	// Each number is counted one more, but the greatest one that has a name, 2, is counted 3.
	shortLanguage = "b,a,aa:"
)

// tenLongNames are names of 8 letters.
const tenLongNames = "aaaaaaaa,bbbbbbbb,cccccccc,dddddddd,abcdabcd,aaaabbbb,ccccdddd,dcbadcba,aaaaaaab,baaaaaaa"

// language is that of a text which is one of names and a frame; the text itself may be wrong.
func language(text string) impl.Language {
	names, frame, _ := strings.Cut(text, ":")
	return impl.Language{Names: strings.Split(names, ","), Frame: frame}
}

// mixedLanguages holds languages of each number of names, whose names and frames have letters without order.
func mixedLanguages() []string {
	texts := []string{}
	mixed := uint32(3)
	next := func(below int) int {
		mixed = mixed*1664525 + 1013904223
		return int(mixed>>12) % below
	}
	text := func(length int, signs int) string {
		signed := ""
		for range length {
			signed += string("abcd"[next(signs)])
		}
		return signed
	}
	for size := 1; size <= 10; size++ {
		for _, longest := range []int{3, 5, 8} {
			for _, signs := range []int{2, 4} {
				names := []string{}
				for len(names) < size {
					if name := text(1+next(longest), signs); !slices.Contains(names, name) {
						names = append(names, name)
					}
				}
				texts = append(texts, strings.Join(names, ",")+":"+text(next(7), 4))
			}
		}
	}
	return texts
}

// knownLanguages holds the languages with a name in these tests, those at the bounds of the chapter, and mixed ones.
func knownLanguages() []string {
	return append(mixedLanguages(),
		exampleLanguage, turnLanguage, longLanguage, shortLanguage, tenLongNames+":", tenLongNames+":abcdabcdabcdabcdabcd",
		"a:", "d:", "b:a", "aaaaaaaa:", "dddddddd:"+strings.Repeat("a", 20), "a,b:"+strings.Repeat("d", 20), "c,d:"+strings.Repeat("ab", 10),
		"c,d,cc,cd,dc,dd,ccc,ccd,cdc,cdd:", "c,d,cc,cd,dc,dd,ccc,ccd,cdc,cdd:abab", "a,aa,aaa,aaaa,aaaaa,aaaaaa,aaaaaaa,aaaaaaaa:", "aaaaaaaa,aaaaaaab:")
}

// plainTold holds all told numbers of so many letters, in lexicographic order.
func plainTold(names int, letters int) [][]int {
	lists := [][]int{{}}
	for range letters {
		longer := [][]int{}
		for _, numbers := range lists {
			for number := range names {
				longer = append(longer, append(slices.Clone(numbers), number))
			}
		}
		lists = longer
	}
	return lists
}

// someTold holds all told numbers of a language if these are few, and else each 37th one.
func someTold(l impl.Language) [][]int {
	lists := [][]int{}
	for letters := 1; letters <= 4; letters++ {
		all := plainTold(len(l.Names), letters)
		for at, numbers := range all {
			if len(all) < 300 || at%37 == 0 || at == len(all)-1 {
				lists = append(lists, numbers)
			}
		}
	}
	return lists
}

func plainSentence(l impl.Language, numbers []int) string {
	parts := []string{l.Frame}
	for at, number := range numbers {
		parts = append(parts, l.Names[number], []string{"a", "b", "c", "d"}[at])
	}
	return strings.Join(parts, "")
}

// plainCounts counts each letter of the sentence in turn.
func plainCounts(l impl.Language, numbers []int) []int {
	counts := []int{0, 0, 0, 0}
	for _, letter := range plainSentence(l, numbers) {
		counts[letter-'a']++
	}
	return counts[:len(numbers)]
}

func plainLies(l impl.Language, numbers []int) int {
	lies := 0
	for at, number := range plainCounts(l, numbers) {
		if numbers[at] != number {
			lies++
		}
	}
	return lies
}

func TestKnownSentences(t *testing.T) {
	for _, c := range []struct {
		language, told, sentence, counts string
		lies                             int
	}{
		{exampleLanguage, "1", "ba", "1", 0},
		{exampleLanguage, "2", "aba", "2", 0},
		{exampleLanguage, "0", "aa", "2", 1},
		{exampleLanguage, "4", "ca", "1", 1},
		{exampleLanguage, "2 2", "abaabb", "3 3", 2},
		{exampleLanguage, "3 3", "baabab", "3 3", 0},
		{exampleLanguage, "4 4 4 4", "cacbcccd", "1 1 5 1", 4},
		{exampleLanguage, "0 0 0 0", "aaabacad", "5 1 1 1", 4},
		{exampleLanguage, "1 3 2 1", "babababcbd", "3 5 1 1", 3},
		{"a:", "0", "aa", "2", 1},
		{"d:", "0 0 0 0", "dadbdcdd", "1 1 1 5", 4},
		{"b:a", "0", "aba", "2", 1},
		{"b,c,d:aa", "2", "aada", "3", 1},
		{"c,d,cc,cd:", "1 1", "dadb", "1 1", 0},
		{"c,d,cc,cd:a", "1 1", "adadb", "2 1", 1},
		{"c,d,cc,cd:a", "2 1", "accadb", "2 1", 0},
		{"c,d,cc,cd:a", "2 3", "accacdb", "2 1", 1},
		{"aaaaaaaa:", "0", "aaaaaaaaa", "9", 1},
		{"a,b:" + strings.Repeat("d", 20), "1", strings.Repeat("d", 20) + "ba", "1", 0},
		{"a,b:" + strings.Repeat("a", 20), "1", strings.Repeat("a", 20) + "ba", "21", 1},
		{tenLongNames + ":abcdabcdabcdabcdabcd", "9 9 9 9", "abcdabcdabcdabcdabcdbaaaaaaaabaaaaaaabbaaaaaaacbaaaaaaad", "34 10 6 6", 4},
		{tenLongNames + ":", "0 9", "aaaaaaaaabaaaaaaab", "16 2", 2},
	} {
		l, numbers := language(c.language), fieldNumbers(c.told)
		if got := answer(impl.SentenceOf(l, numbers)); got != some(c.sentence) {
			t.Errorf("SentenceOf of %s, %s: %v, want %s", c.language, c.told, got, c.sentence)
		}
		if got := list(impl.CountLetters(l, numbers)); got != someList(c.counts) {
			t.Errorf("CountLetters of %s, %s: %v, want %s", c.language, c.told, got, c.counts)
		}
		if got := count(impl.LiesOf(l, numbers)); got != (counted{c.lies, true}) {
			t.Errorf("LiesOf of %s, %s: %v, want %d", c.language, c.told, got, c.lies)
		}
		if got := report(impl.IsTrueSentence(l, numbers)); got != (verdict{c.lies == 0, true}) {
			t.Errorf("IsTrueSentence of %s, %s: %v, want %d lies", c.language, c.told, got, c.lies)
		}
		if got := count(impl.LengthOfSentence(l, numbers)); got != (counted{len(c.sentence), true}) {
			t.Errorf("LengthOfSentence of %s, %s: %v, want %d", c.language, c.told, got, len(c.sentence))
		}
	}
}

func TestManySentences(t *testing.T) {
	for _, text := range knownLanguages() {
		l := language(text)
		for _, numbers := range someTold(l) {
			sentence, lies := plainSentence(l, numbers), plainLies(l, numbers)
			if got := answer(impl.SentenceOf(l, numbers)); got != some(sentence) {
				t.Errorf("SentenceOf of %s, %v: %v, want %s", text, numbers, got, sentence)
			}
			if got := list(impl.CountLetters(l, numbers)); got != list(plainCounts(l, numbers), true) {
				t.Errorf("CountLetters of %s, %v: %v, want %v", text, numbers, got, plainCounts(l, numbers))
			}
			if got := count(impl.LiesOf(l, numbers)); got != (counted{lies, true}) {
				t.Errorf("LiesOf of %s, %v: %v, want %d", text, numbers, got, lies)
			}
			if got := report(impl.IsTrueSentence(l, numbers)); got != (verdict{lies == 0, true}) {
				t.Errorf("IsTrueSentence of %s, %v: %v, want %d lies", text, numbers, got, lies)
			}
			if got := count(impl.LengthOfSentence(l, numbers)); got != (counted{len(sentence), true}) {
				t.Errorf("LengthOfSentence of %s, %v: %v, want %d", text, numbers, got, len(sentence))
			}
		}
	}
}

func TestIsLanguage(t *testing.T) {
	for _, text := range knownLanguages() {
		if !impl.IsLanguage(language(text)) {
			t.Errorf("%s is no language", text)
		}
	}
	for _, l := range noLanguages() {
		if impl.IsLanguage(l) {
			t.Errorf("%q is a language", l)
		}
	}
}

func TestLanguagesAreReadBack(t *testing.T) {
	for _, text := range knownLanguages() {
		if got := answer(impl.LanguageText(language(text))); got != some(text) {
			t.Errorf("LanguageText of %s: %v", text, got)
		}
		l, ok := impl.ParseLanguage(text)
		if want := language(text); !ok || !slices.Equal(l.Names, want.Names) || l.Frame != want.Frame {
			t.Errorf("ParseLanguage of %s: %q, %v", text, l, ok)
		}
		if again := answer(impl.LanguageText(l)); again != some(text) {
			t.Errorf("LanguageText of what is read of %s: %v", text, again)
		}
	}
}
