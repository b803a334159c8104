package tests

import (
	"slices"
	"strings"
	"testing"

	"loop.example/g01240/impl"
)

// withLies is the answer of a call that tells numbers and how many lies they have.
type withLies struct {
	told string
	lies int
	ok   bool
}

func fewest(numbers []int, lies int, ok bool) withLies {
	return withLies{digits(numbers, ok).text, lies, ok}
}

func TestKnownTrueSentences(t *testing.T) {
	for _, c := range []struct {
		language string
		letters  int
		want     string
	}{
		{exampleLanguage, 1, "1 2"},
		{exampleLanguage, 2, "33"},
		{"a,b,ab:", 1, "1 2"},
		{"a:", 1, ""},
		{"a:", 4, ""},
		{"aaaaaaaa,aaaaaaab:", 1, ""},
		{"a,b:" + strings.Repeat("a", 20), 1, ""},
		{longLanguage, 1, ""},
		{"c,d:", 2, "11"},
		{"c,d:a", 1, ""},
		{"c,d,cc:a", 1, "2"},
		{"c,d,cc:a", 2, "21"},
		{"b,bb,a:a", 1, ""},
		{"c,d,cc,cd,dc,dd,ccc,ccd,cdc,cdd:abab", 2, "33"},
		{"c,d,cc,cd,dc,dd,ccc,ccd,cdc,cdd:abab", 3, "334 336"},
		{"c,d,cc,cd,dc,dd,ccc,ccd,cdc,cdd:abab", 4, "3365"},
	} {
		l := language(c.language)
		if got := digitLists(impl.TrueSentences(l, c.letters)); got != someList(c.want) {
			t.Errorf("TrueSentences of %s, %d: %v, want %s", c.language, c.letters, got, c.want)
		}
		if got := count(impl.CountTrue(l, c.letters)); got != (counted{len(strings.Fields(c.want)), true}) {
			t.Errorf("CountTrue of %s, %d: %v, want %s", c.language, c.letters, got, c.want)
		}
	}
}

func TestKnownFewestLies(t *testing.T) {
	for _, c := range []struct {
		language string
		letters  int
		want     withLies
	}{
		{exampleLanguage, 1, withLies{"1", 0, true}},
		{exampleLanguage, 2, withLies{"33", 0, true}},
		{"a:", 1, withLies{"0", 1, true}},
		{"a:", 4, withLies{"0000", 4, true}},
		{"aaaaaaaa,aaaaaaab:", 1, withLies{"0", 1, true}},
		{"c,d:a", 2, withLies{"01", 1, true}},
		{"c,d,cc:aaa", 2, withLies{"01", 1, true}},
		{"c,d,cc:bbb", 2, withLies{"10", 1, true}},
		{"c,d:" + strings.Repeat("ab", 10), 2, withLies{"00", 2, true}},
		{longLanguage, 1, withLies{"0", 1, true}},
	} {
		if got := fewest(impl.FewestLies(language(c.language), c.letters)); got != c.want {
			t.Errorf("FewestLies of %s, %d: %v, want %v", c.language, c.letters, got, c.want)
		}
	}
}

func TestTrueSentencesAreAllThere(t *testing.T) {
	ties, never := 0, 0
	for _, text := range knownLanguages() {
		l := language(text)
		for letters := 1; letters <= 4; letters++ {
			trueOnes, byLies := [][]int{}, make([][][]int, 5)
			for _, numbers := range plainTold(len(l.Names), letters) {
				lies := plainLies(l, numbers)
				byLies[lies] = append(byLies[lies], numbers)
			}
			trueOnes = append(trueOnes, byLies[0]...)
			if got := digitLists(impl.TrueSentences(l, letters)); got != digitLists(trueOnes, true) {
				t.Errorf("TrueSentences of %s, %d: %v, want %v", text, letters, got, trueOnes)
			}
			if got := count(impl.CountTrue(l, letters)); got != (counted{len(trueOnes), true}) {
				t.Errorf("CountTrue of %s, %d: %v, want %d", text, letters, got, len(trueOnes))
			}
			lies := slices.IndexFunc(byLies, func(lists [][]int) bool { return len(lists) > 0 })
			if got := fewest(impl.FewestLies(l, letters)); got != fewest(byLies[lies][0], lies, true) {
				t.Errorf("FewestLies of %s, %d: %v, want %v with %d", text, letters, got, byLies[lies][0], lies)
			}
			if lies > 0 {
				never++
			}
			if len(byLies[lies]) > 1 {
				ties++
			}
		}
	}
	if ties < 20 || never < 20 {
		t.Errorf("only %d times several have as few lies, %d times none is true", ties, never)
	}
}

// TestTrueSentencesCountTheirLetters asks the calls alone, and counts the letters of what they say.
func TestTrueSentencesCountTheirLetters(t *testing.T) {
	seen := 0
	for _, text := range knownLanguages() {
		l := language(text)
		for letters := 1; letters <= 4; letters++ {
			lists, _ := impl.TrueSentences(l, letters)
			seen += len(lists)
			for _, numbers := range lists {
				sentence, ok := impl.SentenceOf(l, numbers)
				for at, number := range numbers {
					if letter := string(rune('a' + at)); !ok || strings.Count(sentence, letter) != number {
						t.Errorf("%s, %v: %s has not %d times %s", text, numbers, sentence, number, letter)
					}
				}
				checkTrue(t, l, numbers)
			}
		}
	}
	if seen < 50 {
		t.Errorf("only %d true sentences", seen)
	}
}

func checkTrue(t *testing.T, l impl.Language, numbers []int) {
	t.Helper()
	if got := report(impl.IsTrueSentence(l, numbers)); got != (verdict{true, true}) {
		t.Errorf("IsTrueSentence of %q, %v: %v", l, numbers, got)
	}
	if got := count(impl.LiesOf(l, numbers)); got != (counted{0, true}) {
		t.Errorf("LiesOf of %q, %v: %v", l, numbers, got)
	}
	if got := digits(impl.CountAgain(l, numbers)); got != digits(numbers, true) {
		t.Errorf("CountAgain of %q, %v: %v", l, numbers, got)
	}
	if got := ends(impl.LoopOfCounting(l, numbers)); got != (loop{0, 1, true}) {
		t.Errorf("LoopOfCounting of %q, %v: %v", l, numbers, got)
	}
	if frames, ok := impl.TrueFrames(l, numbers, min(len(l.Frame), 6)); !ok || len(l.Frame) <= 6 && !slices.Contains(frames, l.Frame) {
		t.Errorf("TrueFrames of %q, %v: %v, %v", l, numbers, frames, ok)
	}
}

func TestKnownTrueFrames(t *testing.T) {
	for _, c := range []struct {
		language, told string
		length         int
		want           string
	}{
		{"c,d:", "1 1", 1, "c d"},
		{"c,d:", "1 1", 2, "cc cd dc dd"},
		{"c,d,cc:", "2 1", 1, "a"},
		{"c,d,cc:", "2 1", 2, "ac ad ca da"},
		{"c,d,cc:", "2 2", 2, "ab ba"},
		{"c,d,cc:", "2 2", 1, ""},
		{"c,d,cc:abab", "0", 3, ""},
		{exampleLanguage, "0", 6, ""},
		{"aaaaaaaa,b:", "0", 6, ""},
		{"a,b,ab,cd,dc,dd:", "5 1 1 1", 6, ""},
		{"c,d,cc,cd,dc,dd,ccc:dddd", "6", 5, "aaaaa"},
		{"c,d,cc,cd,dc,dd,ccc:dddd", "6", 6, "aaaaab aaaaac aaaaad aaaaba aaaaca aaaada aaabaa aaacaa aaadaa aabaaa aacaaa aadaaa abaaaa acaaaa adaaaa baaaaa caaaaa daaaaa"},
		{"c,d,b,a:", "1 2 1 2", 1, ""},
		{"c,d,b,aaa:", "1 3 1 1", 2, ""},
		{"b,c,d,aa,bb,cc,dd,ab,ba,ac:", "4 4 1 1", 3, ""},
	} {
		if got := list(impl.TrueFrames(language(c.language), fieldNumbers(c.told), c.length)); got != someList(c.want) {
			t.Errorf("TrueFrames of %s, %s, %d: %v, want %s", c.language, c.told, c.length, got, c.want)
		}
	}
}

// TestTrueFramesOfNoLetter wants the frame without letters itself, and not a list without frames.
func TestTrueFramesOfNoLetter(t *testing.T) {
	for _, text := range []string{"c,d:", "c,d:abcd", "c,d:" + strings.Repeat("a", 20)} {
		if frames, ok := impl.TrueFrames(language(text), []int{1}, 0); !ok || !slices.Equal(frames, []string{""}) {
			t.Errorf("TrueFrames of %s, 1: %q, %v", text, frames, ok)
		}
		if frames, ok := impl.TrueFrames(language(text), []int{0}, 0); !ok || len(frames) != 0 {
			t.Errorf("TrueFrames of %s, 0: %q, %v", text, frames, ok)
		}
	}
}

func TestTrueFramesAreAllThere(t *testing.T) {
	seen := 0
	all := [][]string{}
	for length := range 7 {
		frames := []string{}
		for _, text := range allTexts(length, 4) {
			frames = append(frames, strings.NewReplacer("1", "a", "2", "b", "3", "c", "4", "d").Replace(text))
		}
		all = append(all, frames)
	}
	for at, text := range knownLanguages() {
		l := language(text)
		for place, numbers := range someTold(l) {
			if (place+at)%53 != 0 {
				continue
			}
			for length, every := range all {
				want := []string{}
				for _, frame := range every {
					if plainLies(impl.Language{Names: l.Names, Frame: frame}, numbers) == 0 {
						want = append(want, frame)
					}
				}
				frames, ok := impl.TrueFrames(l, numbers, length)
				if !ok || !slices.Equal(frames, want) {
					t.Errorf("TrueFrames of %s, %v, %d: %v, %v, want %v", text, numbers, length, frames, ok, want)
				}
				seen += len(want)
			}
		}
	}
	if seen < 1000 {
		t.Errorf("only %d frames", seen)
	}
}
