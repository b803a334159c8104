package tests

import (
	"fmt"
	"regexp"
	"slices"
	"strconv"
	"strings"
	"testing"

	"loop.example/g01240/impl"
)

// turn is the answer of a call that takes a line: the desk behind it and the reply, or that there is none.
type turn struct {
	word, kept, reply string
	ok                bool
}

func turned(d impl.Desk, reply string, ok bool) turn { return turn{d.Word, d.Kept, reply, ok} }

// desk is that of a text which is a word, a blank and what is kept.
func desk(text string) impl.Desk {
	word, kept, _ := strings.Cut(text, " ")
	return impl.Desk{Word: word, Kept: kept}
}

// stays is the answer to a line that leaves a desk as it is.
func stays(d impl.Desk, reply string) turn { return turn{d.Word, d.Kept, reply, true} }

// becomes makes an answer of a call that tells a new Word, and stops where there is none.
func becomes(d impl.Desk) func(string, bool) turn {
	return func(w string, ok bool) turn {
		if !ok {
			return stays(d, "no")
		}
		return turn{w, d.Kept, w, true}
	}
}

// tellsNumber makes an answer of a call that tells a number.
func tellsNumber(d impl.Desk) func(int, bool) turn {
	return func(number int, ok bool) turn {
		if !ok {
			return stays(d, "no")
		}
		return stays(d, strconv.Itoa(number))
	}
}

// plainList writes numbers or texts with a sign between them.
func plainList[T any](between string, elements ...T) string {
	if len(elements) == 0 {
		return "-"
	}
	return strings.ReplaceAll(strings.Trim(fmt.Sprint(elements), "[]"), " ", between)
}

// plainLines holds what each line does, by the form that it has in the document; its parts are right.
var plainLines = map[string]func(d impl.Desk, parts []string) turn{
	"word W": func(d impl.Desk, parts []string) turn { return becomes(d)(parts[1], true) },
	"say N": func(d impl.Desk, parts []string) turn {
		return becomes(d)(impl.SayTimes(d.Word, fieldNumbers(parts[1])[0]))
	},
	"hear":   func(d impl.Desk, _ []string) turn { return becomes(d)(impl.HearWord(d.Word)) },
	"back":   func(d impl.Desk, _ []string) turn { return becomes(d)(impl.BackWord(d.Word)) },
	"other":  func(d impl.Desk, _ []string) turn { return becomes(d)(impl.SayOther(d.Word)) },
	"tally":  func(d impl.Desk, _ []string) turn { return becomes(d)(impl.InventoryOf(d.Word)) },
	"keep":   func(d impl.Desk, _ []string) turn { return turn{d.Word, d.Word, d.Word, true} },
	"swap":   func(d impl.Desk, _ []string) turn { return turn{d.Kept, d.Word, d.Kept, true} },
	"show":   func(d impl.Desk, _ []string) turn { return stays(d, d.Word) },
	"length": func(d impl.Desk, _ []string) turn { return tellsNumber(d)(len(d.Word), true) },
	"digit N": func(d impl.Desk, parts []string) turn {
		return tellsNumber(d)(impl.CountDigit(d.Word, fieldNumbers(parts[1])[0]))
	},
	"still": func(d impl.Desk, _ []string) turn {
		if is, _ := impl.IsStill(d.Word); is {
			return stays(d, "yes")
		}
		return stays(d, "not")
	},
	"loop": func(d impl.Desk, _ []string) turn {
		tail, loop, ok := impl.LoopOfInventory(d.Word)
		return tellsList(d, plainList(",", tail, loop), ok)
	},
	"loops": func(d impl.Desk, _ []string) turn {
		words, ok := impl.LoopWords(d.Word)
		return tellsList(d, plainList(" ", words...), ok)
	},
	"tell L": func(d impl.Desk, parts []string) turn {
		told, ok := impl.TellList(fieldNumbers(strings.ReplaceAll(parts[1], ",", " ")))
		return tellsList(d, plainList(",", told...), ok)
	},
	"golomb N": func(d impl.Desk, parts []string) turn {
		return tellsNumber(d)(impl.GolombOf(fieldNumbers(parts[1])[0]))
	},
	"wild N": func(d impl.Desk, parts []string) turn { return tellsNumber(d)(impl.WildOf(fieldNumbers(parts[1])[0])) },
	"halved N": func(d impl.Desk, parts []string) turn {
		return tellsNumber(d)(impl.HalvedOf(fieldNumbers(parts[1])[0]))
	},
	"true N S": func(d impl.Desk, parts []string) turn {
		trueOnes, ok := impl.TrueSentences(language(parts[2]), fieldNumbers(parts[1])[0])
		texts := []string{}
		for _, numbers := range trueOnes {
			texts = append(texts, plainList(",", numbers...))
		}
		return tellsList(d, plainList("/", texts...), ok)
	},
}

// tellsList is the answer of a line whose reply is a list, or no.
func tellsList(d impl.Desk, reply string, ok bool) turn {
	if !ok {
		return stays(d, "no")
	}
	return stays(d, reply)
}

// grammarsOfLines tells for the form of each line which ones have it.
var grammarsOfLines = plainGrammars()

func plainGrammars() map[string]*regexp.Regexp {
	number := `(0|[1-9][0-9]{0,5})`
	parts := strings.NewReplacer("W", "[1-9]{1,400}", "N", number, "L", number+"(,"+number+")*", "S", "[abcd]{1,8}(,[abcd]{1,8}){0,9}:[abcd]{0,20}")
	grammars := map[string]*regexp.Regexp{}
	for form := range plainLines {
		grammars[form] = regexp.MustCompile(`\A` + parts.Replace(form) + `\z`)
	}
	return grammars
}

// plainTurn does what the document tells for a line.
func plainTurn(d impl.Desk, line string) turn {
	name, _, _ := strings.Cut(line, " ")
	for form, grammar := range grammarsOfLines {
		if (form == name || strings.HasPrefix(form, name+" ")) && grammar.MatchString(line) {
			parts := strings.Split(line, " ")
			if form == "true N S" && !impl.IsLanguage(language(parts[2])) {
				break
			}
			return plainLines[form](d, parts)
		}
	}
	return stays(d, "what")
}

// plainLineTexts holds lines of each kind: most have an effect or a reply for some words, others for none.
func plainLineTexts() []string {
	lines := strings.Split("hear,back,other,tally,keep,swap,show,length,still,loop,loops,fly,,Word,words", ",")
	for _, name := range []string{"say", "digit", "golomb", "wild", "halved"} {
		for _, number := range strings.Fields("0 1 2 3 4 5 8 9 10 19 20 21 100 1000 2999 3000 3001 999999 1000000 01 00 -1 +1 1.0 1,2 x") {
			lines = append(lines, name+" "+number)
		}
	}
	for _, w := range []string{"1", "9", "22", "1112", "987654321", alternating(400), strings.Repeat("8", 400), strings.Repeat("8", 401), "0", "10", "1x", "-1", ""} {
		lines = append(lines, "word "+w)
	}
	for _, text := range strings.Fields("0 1 2 0,0 0,0,0 3,0,0 1,2,1,0 2,1,2,0,0 1,1,1 0,3 4,0,0 9,0,0,0,0,0,0,0,0 0,0,0,0,0,0,0,0,0 10,0,0,0,0,0,0,0,0 0,0,0,0,0,0,0,0,0,0 999999 0,999999 0,1000000 01 0,01 , 0, ,0 0,,0 -1 0;0") {
		lines = append(lines, "tell "+text)
	}
	for _, text := range []string{exampleLanguage, turnLanguage, longLanguage, "a,b,ab:", "a:", "d:", "a", "a,a:", "e:", "A:", ":"} {
		for _, letters := range strings.Fields("0 1 2 3 4 5 999999 1000000 01 -1 x") {
			lines = append(lines, "true "+letters+" "+text)
		}
	}
	return lines
}

func TestConstantsOfChapter10(t *testing.T) {
	if impl.MaxScript != 3000 || impl.MaxLines != 50 {
		t.Errorf("MaxScript is %d, MaxLines is %d", impl.MaxScript, impl.MaxLines)
	}
}

func TestFirstDesk(t *testing.T) {
	if got := impl.FirstDesk(); got != desk("1 22") || !impl.IsDesk(got) {
		t.Errorf("the first desk: %q", got)
	}
}

func TestIsDeskWantsTwoWords(t *testing.T) {
	words := append(sampleWords(), "1", strings.Repeat("9", 400), alternating(399))
	for _, w := range words {
		for _, d := range []impl.Desk{{Word: w, Kept: "22"}, {Word: "1", Kept: w}, {Word: w, Kept: w}} {
			if !impl.IsDesk(d) {
				t.Errorf("%q is a desk", d)
			}
		}
	}
}

const exampleScript = "say 4\nlength\ndigit 1\nhear\ntally\nloop\nswap\nstill\ntell 0,0,0\ngolomb 8\nhalved 5\ntrue 1 a,b,ab:\nhear 1\ngolomb 0\nfly\n"

func TestExampleOfChapter10(t *testing.T) {
	want := "111221 6 4 1211 3112 8,1 22 yes 3,0,0 4 3 1/2 what no what"
	if got := list(impl.RunScript(exampleScript)); got != someList(want) {
		t.Errorf("replies: %v, want %s", got, want)
	}
	if d, ok := impl.DeskAfter(exampleScript); !ok || d != desk("22 3112") {
		t.Errorf("desk behind the script: %q, %v", d, ok)
	}
	if got := list(impl.FailedLines(exampleScript)); got != someList("13 14 15") {
		t.Errorf("failed lines: %v", got)
	}
	d := impl.FirstDesk()
	lines := strings.Split(exampleScript, "\n")
	for at, reply := range strings.Fields(want) {
		got := turned(impl.DeskLine(d, lines[at]))
		if !got.ok || got.reply != reply {
			t.Errorf("%s on %q: %v, want %s", lines[at], d, got, reply)
		}
		d = impl.Desk{Word: got.word, Kept: got.kept}
	}
}

// TestLinesOfTheTable has one answer at least for each line; the desk stays where no other one is told.
func TestLinesOfTheTable(t *testing.T) {
	for _, c := range []struct{ desk, line, behind, reply string }{
		{"1112 9", "word 312", "312 9", "312"},
		{"1112 9", "say 1", "3112 9", "3112"},
		{"1112 9", "say 3", "1113122112 9", "1113122112"},
		{"1112 9", "hear", "12 9", "12"},
		{"3112 9", "hear", "1112 9", "1112"},
		{"1112 9", "back", "2111 9", "2111"},
		{"1112 9", "other", "1321 9", "1321"},
		{"1112 9", "tally", "3112 9", "3112"},
		{"3112 9", "tally", "211213 9", "211213"},
		{"1112 9", "keep", "1112 1112", "1112"},
		{"1112 9", "swap", "9 1112", "9"},
		{"1112 9", "show", "", "1112"},
		{"1112 9", "length", "", "4"},
		{"1112 9", "digit 1", "", "3"},
		{"1112 9", "digit 2", "", "1"},
		{"1112 9", "digit 9", "", "0"},
		{"1112 9", "still", "", "not"},
		{"22 9", "still", "", "yes"},
		{"3112 9", "loop", "", "8,1"},
		{"1 9", "loop", "", "12,1"},
		{"22 9", "loop", "", "0,1"},
		{"1 9", "loops", "", "21322314"},
		{"22 9", "loops", "", "22"},
		{"111116 9", "loops", "", "412223241516 314213241516"},
		{"1112 9", "tell 0,0,0", "", "3,0,0"},
		{"1112 9", "tell 1,2,1,0", "", "1,2,1,0"},
		{"1112 9", "golomb 8", "", "4"},
		{"1112 9", "wild 9", "", "6"},
		{"1112 9", "halved 5", "", "3"},
		{"1112 9", "true 1 a,b,ab:", "", "1/2"},
		{"1112 9", "true 2 a,b,ab,ba,c:", "", "3,3"},
		{"1112 9", "true 2 c,cbacc,cccdcb,abc,bdbddad,aa,aabdacb:", "", "2,3/2,4/3,3/3,4"},
		{"1112 9", "true 1 a:", "", "-"},
		{"1112 9", "digit 0", "", "no"},
		{"1121 9", "hear", "", "no"},
		{"1112 9", "golomb 0", "", "no"},
		{"1112 9", "fly", "", "what"},
	} {
		if c.behind == "" {
			c.behind = c.desk
		}
		want := turned(desk(c.behind), c.reply, true)
		if got := turned(impl.DeskLine(desk(c.desk), c.line)); got != want {
			t.Errorf("%s on %s: %v, want %v", c.line, c.desk, got, want)
		}
	}
}

// TestLinesDoWhatTheCallsDo holds all lines against the calls that they name, for words of all kinds.
func TestLinesDoWhatTheCallsDo(t *testing.T) {
	words := append(sampleWords(), tallyWords()[:60]...)
	words = append(words, nineTimes, "111116", "21322314", "1121", "3112")
	refused, done := 0, 0
	for at, line := range plainLineTexts() {
		for place, w := range words {
			// Only some of the words are asked with each line of a kind: there are many of both.
			if len(w) < 7 && (place+at)%23 != 0 {
				continue
			}
			d := impl.Desk{Word: w, Kept: words[(place+at)%len(words)]}
			got, want := turned(impl.DeskLine(d, line)), plainTurn(d, line)
			if got != want {
				t.Fatalf("%s on %q: %v, want %v", line, d, got, want)
			}
			if want.reply == "no" || want.reply == "what" {
				refused++
			} else {
				done++
			}
		}
	}
	if refused < 1000 || done < 1000 {
		t.Errorf("%d lines are refused, %d are done", refused, done)
	}
}

// TestRefusedLinesChangeNothing asks again behind a line that is refused.
func TestRefusedLinesChangeNothing(t *testing.T) {
	refused := []string{}
	for _, d := range []impl.Desk{desk("1121 3"), desk("7777777777 12"), {Word: strings.Repeat("7", 400), Kept: strings.Repeat("3", 10)}, {Word: alternating(400), Kept: nineTimes}} {
		for _, line := range plainLineTexts() {
			got := turned(impl.DeskLine(d, line))
			if got.reply != "no" && got.reply != "what" {
				continue
			}
			refused = append(refused, line)
			if got.word != d.Word || got.kept != d.Kept || !got.ok {
				t.Errorf("%s changes %q: %v", line, d, got)
			}
		}
	}
	for _, line := range []string{"hear", "say 1", "say 20", "other", "tally", "loop", "loops", "digit 0", "golomb 0", "word 0", "fly", ""} {
		if !slices.Contains(refused, line) {
			t.Errorf("%q is never refused", line)
		}
	}
}
