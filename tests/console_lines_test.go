package tests

import (
	"slices"
	"strconv"
	"strings"
	"testing"

	"loop.example/g01240/impl"
)

// checkReply wants a reply to a line, and the desk behind it; where none is told, it stays.
func checkReply(t *testing.T, d impl.Desk, line string, behind impl.Desk, reply string) {
	t.Helper()
	if behind == (impl.Desk{}) {
		behind = d
	}
	if got, want := turned(impl.DeskLine(d, line)), turned(behind, reply, true); got != want {
		t.Errorf("%.80q on %.80q: %.80v, want %.80v", line, d, got, want)
	}
}

// Texts that are numbers of lines, and others.
const (
	goodNumbers  = "0 1 2 7 9 10 20 99 100 12345 100000 999998 999999"
	wrongNumbers = "00 01 007 000000 0000001 0999999 1000000 1000001 9999999 1234567 12345678 4294967297 9223372036854775807 9223372036854775808 18446744073709551617 -0 -1 +0 +1 -999999 1. .1 1.0 1,0 1, ,1 1e3 0x1 1_0 1_000 x one １ ٣ 1\x00 \xff 1\t 1\r 2\v"
)

func TestNumbersOfLines(t *testing.T) {
	d := desk("1112 22")
	for _, form := range []string{"say #", "digit #", "golomb #", "wild #", "halved #", "tell #", "tell #,0", "tell 0,0,#", "tell 0,#,1", "true # a,b,ab:", "true # a:"} {
		for number := range strings.SplitSeq(goodNumbers, " ") {
			line := strings.ReplaceAll(form, "#", number)
			if got := turned(impl.DeskLine(d, line)); got.reply == "what" || got != plainTurn(d, line) {
				t.Errorf("%q: %v, want %v", line, got, plainTurn(d, line))
			}
		}
		for number := range strings.SplitSeq(wrongNumbers, " ") {
			if strings.HasPrefix(form, "tell") && number == "1,0" {
				continue
			}
			checkReply(t, d, strings.ReplaceAll(form, "#", number), impl.Desk{}, "what")
		}
		checkReply(t, d, strings.ReplaceAll(form, "#", ""), impl.Desk{}, "what")
		checkReply(t, d, strings.ReplaceAll(form, "#", strings.Repeat("1", 2000)), impl.Desk{}, "what")
		checkReply(t, d, strings.ReplaceAll(form, "#", strings.Repeat("0", 2000)), impl.Desk{}, "what")
	}
}

// TestOrderOfWhatAndNo has parts that are none beside numbers with which the function would fail.
func TestOrderOfWhatAndNo(t *testing.T) {
	for _, line := range []string{"true 0 a", "true 9 e:", "true 999999 a,a:", "true 0 ", "true 9 a:b:", "true 1000000 a", "tell 9,x", "tell x,9", "tell 999999,1000000", "tell 9,", "hear 1", "say 21 1", "golomb 0 0", "digit 0 "} {
		for _, text := range []string{"1121 22", "7777777777 9", "1 1"} {
			checkReply(t, desk(text), line, impl.Desk{}, "what")
		}
	}
}

func TestSayLines(t *testing.T) {
	long, most := strings.Repeat("7", 400), alternating(200)
	for _, c := range []struct {
		w, line string
		reply   string
	}{
		{"1112", "say 0", "1112"}, {long, "say 0", long}, {"7777777777", "say 0", "7777777777"}, {"22", "say 0", "22"},
		{"22", "say 1", "22"}, {"22", "say 19", "22"}, {"22", "say 20", "22"}, {"22", "say 21", "no"}, {"22", "say 100", "no"}, {"22", "say 999999", "no"}, {"22", "say 1000000", "what"},
		{"1", "say 5", "312211"}, {"1", "say 6", "13112221"}, {long, "say 1", "no"}, {"7777777777", "say 1", "no"}, {strings.Repeat("7", 9), "say 1", "97"},
		{most, "say 1", plainSay(most, false).text}, {most + "2", "say 1", plainSay(most+"2", false).text}, {alternating(201), "say 1", "no"}, {alternating(400), "say 1", "no"}, {alternating(400), "say 0", alternating(400)},
		{"1", "say", "what"}, {"1", "say ", "what"}, {"1", "say 1 ", "what"}, {"1", "say  1", "what"}, {"1", "say -1", "what"},
	} {
		behind := impl.Desk{Word: c.reply, Kept: "9"}
		if c.reply == "no" || c.reply == "what" {
			behind.Word = c.w
		}
		checkReply(t, impl.Desk{Word: c.w, Kept: "9"}, c.line, behind, c.reply)
	}
	for times := range 21 {
		if said, ok := impl.SayTimes("1", times); ok {
			checkReply(t, desk("1 3"), "say "+strconv.Itoa(times), impl.Desk{Word: said, Kept: "3"}, said)
		} else {
			checkReply(t, desk("1 3"), "say "+strconv.Itoa(times), impl.Desk{}, "no")
		}
	}
}

func TestWordLines(t *testing.T) {
	d := desk("1112 9")
	for _, w := range append(sampleWords(), strings.Repeat("1", 400), strings.Repeat("9", 399), alternating(400), "1112") {
		checkReply(t, d, "word "+w, impl.Desk{Word: w, Kept: "9"}, w)
	}
	for _, text := range noWords() {
		if line := "word " + text; !strings.Contains(line, "\n") && len(line) <= 3000 {
			checkReply(t, d, line, impl.Desk{}, "what")
		}
	}
	for _, text := range []string{"0", "10", "01", "1 ", " 1", "1  2", "word", "1,2", "a", strings.Repeat("1", 401), strings.Repeat("1", 402), alternating(401), strings.Repeat("1", 2995)} {
		checkReply(t, d, "word "+text, impl.Desk{}, "what")
	}
}

func TestHearLines(t *testing.T) {
	for w, reply := range map[string]string{
		"11": "1", "22": "22", "1211": "21", "3112": "1112", "91": "111111111", "1112": "12",
		"1": "no", "111": "no", "1121": "no", "1111": "no", "2242": "no", "12345": "no", strings.Repeat("9", 400): "no", strings.Repeat("9192", 100): "no", alternating(399): "no",
	} {
		d := impl.Desk{Word: w, Kept: "7"}
		behind := impl.Desk{Word: reply, Kept: "7"}
		if reply == "no" {
			behind.Word = w
		}
		checkReply(t, d, "hear", behind, reply)
	}
}

func TestLinesOfWordsWithoutInventory(t *testing.T) {
	for _, w := range []string{strings.Repeat("1", 10), strings.Repeat("7", 400), strings.Repeat("12", 9) + "1", strings.Repeat("9", 10) + "8", alternating(400)} {
		for _, line := range []string{"tally", "loop", "loops"} {
			checkReply(t, impl.Desk{Word: w, Kept: "1"}, line, impl.Desk{}, "no")
			checkReply(t, impl.Desk{Word: w, Kept: w}, line, impl.Desk{}, "no")
		}
	}
	// The first inventory is there, but one of the next ones is not, or just still is.
	for _, line := range []string{"loop", "loops"} {
		d := impl.Desk{Word: nineTimes, Kept: "1"}
		checkReply(t, d, line, impl.Desk{}, plainTurn(d, line).reply)
	}
	checkReply(t, impl.Desk{Word: strings.Repeat("1", 9), Kept: "1"}, "tally", desk("91 1"), "91")
	checkReply(t, impl.Desk{Word: nineTimes, Kept: "1"}, "tally", desk("313233343536373839 1"), "313233343536373839")
}

func TestKeepAndSwap(t *testing.T) {
	long := strings.Repeat("8", 400)
	for _, w := range []string{"1", "22", "1112", long} {
		for _, kept := range []string{"1", "22", "9", long} {
			d := impl.Desk{Word: w, Kept: kept}
			both, other := impl.Desk{Word: w, Kept: w}, impl.Desk{Word: kept, Kept: w}
			checkReply(t, d, "keep", both, w)
			checkReply(t, d, "swap", other, kept)
			checkReply(t, other, "swap", d, w)
			checkReply(t, both, "swap", both, w)
			checkReply(t, other, "keep", impl.Desk{Word: kept, Kept: kept}, kept)
		}
	}
	for script, want := range map[string]string{
		"keep\nswap\n":                           "1 1",
		"swap\nkeep\n":                           "22 22",
		"swap\nswap\n":                           "1 22",
		"swap\nswap\nswap\n":                     "22 1",
		"word 3\nkeep\nword 4\nswap\n":           "3 4",
		"word 3\nkeep\nword 4\nkeep\nswap\n":     "4 4",
		"word 3\nkeep\nword 4\nswap\nkeep\n":     "3 3",
		"word 3\nswap\nword 4\nswap\n":           "3 4",
		"word 112\nkeep\ntally\nswap\nsay 1\n":   "2112 2112",
		"word 112\nkeep\nback\nswap\nhear\n":     "112 211",
		"word 112\nkeep\nfly\nword 0\nword 12\n": "12 112",
	} {
		if got, ok := impl.DeskAfter(script); !ok || got != desk(want) {
			t.Errorf("desk behind %q: %q, %v, want %s", script, got, ok, want)
		}
	}
}

func TestShowAndLength(t *testing.T) {
	for _, length := range []int{1, 2, 9, 10, 99, 100, 101, 399, 400} {
		for _, w := range []string{strings.Repeat("8", length), alternating(length)} {
			checkReply(t, impl.Desk{Word: w, Kept: "1"}, "show", impl.Desk{}, w)
			checkReply(t, impl.Desk{Word: w, Kept: "1"}, "length", impl.Desk{}, strconv.Itoa(length))
			checkReply(t, impl.Desk{Word: "1", Kept: w}, "length", impl.Desk{}, "1")
			checkReply(t, impl.Desk{Word: "1", Kept: w}, "show", impl.Desk{}, "1")
		}
	}
}

func TestDigitAndStillLines(t *testing.T) {
	w := "1112999"
	for digit := 1; digit <= 9; digit++ {
		checkReply(t, impl.Desk{Word: w, Kept: "4"}, "digit "+strconv.Itoa(digit), impl.Desk{}, strconv.Itoa(strings.Count(w, strconv.Itoa(digit))))
	}
	checkReply(t, impl.Desk{Word: strings.Repeat("8", 400), Kept: "4"}, "digit 8", impl.Desk{}, "400")
	for _, number := range []string{"0", "10", "11", "19", "100", "257", "999999"} {
		checkReply(t, impl.Desk{Word: w, Kept: "4"}, "digit "+number, impl.Desk{}, "no")
	}
	for _, w := range sampleWords() {
		reply := "not"
		if w == "22" {
			reply = "yes"
		}
		checkReply(t, impl.Desk{Word: w, Kept: "22"}, "still", impl.Desk{}, reply)
		checkReply(t, impl.Desk{Word: w, Kept: "1"}, "still", impl.Desk{}, reply)
	}
}

func TestTellLines(t *testing.T) {
	d := desk("1112 9")
	for text, reply := range map[string]string{
		"0": "1", "1": "0", "2": "no", "999999": "no", "1000000": "what", "": "what", ",": "what", ",,": "what", "0,": "what", ",0": "what", "0,,0": "what", "0,0,": "what", ",0,0": "what",
		"0,0": "2,0", "1,1": "0,2", "2,2": "0,0", "3,0": "no", "0,3": "no", "0,0,0": "3,0,0", "3,0,0": "2,0,0", "2,0,0": "2,0,1", "2,0,1": "1,1,1", "1,1,1": "0,3,0", "0,3,0": "2,0,0",
		"1,2,1,0": "1,2,1,0", "2,0,2,0": "2,0,2,0", "2,1,2,0,0": "2,1,2,0,0", "0,0,0,0,0,0,0,0,0": "9,0,0,0,0,0,0,0,0", "9,9,9,9,9,9,9,9,9": "0,0,0,0,0,0,0,0,0", "10,0,0,0,0,0,0,0,0": "no",
		"0,0,0,0,0,0,0,0,0,0": "no", "00": "what", "0,00": "what", "0,-1": "what", "0, 0": "what", "0 0": "what", "0;0": "what", "0.0": "what", "-": "what", "0,0,1000000": "what", "0,0,999999": "no",
		strings.Repeat("0,", 1400) + "0": "no", strings.Repeat("0,", 1400): "what", strings.Repeat(",", 2900): "what",
	} {
		checkReply(t, d, "tell "+text, impl.Desk{}, reply)
	}
}

func TestLinesOfSequences(t *testing.T) {
	for line, reply := range map[string]string{
		"golomb 1": "1", "golomb 2": "2", "golomb 8": "4", "golomb 3000": strconv.Itoa(plainGolomb(3000)[2999]), "golomb 0": "no", "golomb 3001": "no", "golomb 999999": "no", "golomb 1000000": "what",
		"wild 1": "1", "wild 2": "1", "wild 9": "6", "wild 3000": strconv.Itoa(plainWild(3000)[2999]), "wild 0": "no", "wild 3001": "no", "wild 999999": "no", "wild 1000000": "what",
		"halved 0": "0", "halved 1": "1", "halved 5": "3", "halved 524288": "1", "halved 999999": strconv.Itoa(plainHalved(999999)), "halved 1000000": "what", "halved 1000000000": "what",
	} {
		checkReply(t, desk("1112 9"), line, impl.Desk{}, reply)
	}
}

func TestTrueLines(t *testing.T) {
	several := "c,cbacc,cccdcb,abc,bdbddad,aa,aabdacb:"
	for text, reply := range map[string]string{
		"1 a,b,ab:": "1/2", "1 a:": "-", "4 a:": "-", "2 a,b,ab,ba,c:": "3,3", "2 " + several: "2,3/2,4/3,3/3,4", "1 a,b:": "1", "1 b,a:a": "-",
		"0 a:": "no", "5 a:": "no", "999999 a:": "no", "0 " + several: "no", "1000000 a:": "what", "01 a:": "what", "-1 a:": "what", "x a:": "what", " a:": "what",
		"1 a": "what", "1 ": "what", "1 :": "what", "1 :a": "what", "1 a,a:": "what", "1 a,:": "what", "1 ,a:": "what", "1 e:": "what", "1 A:": "what", "1 a:e": "what", "1 a:a:": "what", "1 a;b:": "what",
		"1 a,b,ab: ": "what", "1 a, b:": "what", "1  a,b:": "what", "1 a,b: a": "what", "1 a b:": "what", "1": "what", "": "what", "a,b,ab:": "what", "a,b,ab: 1": "what", "1 aaaaaaaaa:": "what", "1 a:" + strings.Repeat("b", 21): "what",
		"1 " + tenLongNames + ",a:": "what", "1 " + tenLongNames + ":" + strings.Repeat("a", 20): "-",
	} {
		checkReply(t, desk("1112 9"), "true "+text, impl.Desk{}, reply)
	}
	for _, text := range knownLanguages() {
		for letters := range 6 {
			d, line := desk("3 9"), "true "+strconv.Itoa(letters)+" "+text
			want := plainTurn(d, line).reply
			if unknown := letters == 0 || letters == 5; unknown != (want == "no") {
				t.Errorf("%s: want %s", line, want)
			}
			checkReply(t, d, line, impl.Desk{}, want)
		}
	}
}

// exactLines holds a line of each kind with as many parts as it wants.
var exactLines = []string{"word 3", "say 1", "hear", "back", "other", "tally", "keep", "swap", "show", "length", "digit 1", "still", "loop", "loops", "tell 0,0,0", "golomb 8", "wild 9", "halved 5", "true 1 a,b,ab:"}

func TestLinesWithOtherParts(t *testing.T) {
	d := desk("3112 22")
	for _, line := range exactLines {
		if got := turned(impl.DeskLine(d, line)); got.reply == "what" || got.reply == "no" {
			t.Fatalf("%q: %v", line, got)
		}
		name, rest, more := strings.Cut(line, " ")
		wrong := []string{line + " ", line + " 1", line + " a:", line + "  ", " " + line, "  " + line, line + "\t", "\t" + line, line + "\r", line + "\x00", line + ".", "-" + line, line + " " + line, strings.Repeat(line+" ", 50)}
		wrong = append(wrong, strings.ToUpper(name)+line[len(name):], strings.ToUpper(name[:1])+line[1:], name[:len(name)-1]+line[len(name):], name+"x"+line[len(name):], name[1:]+line[len(name):], name+"_"+line[len(name):], name+" _", name+name)
		if more {
			wrong = append(wrong, name, name+" ", name+"  "+rest, name+rest, name+"\t"+rest, name+","+rest, name+"_"+rest, name+" "+rest+" "+rest, rest+" "+name, rest)
		}
		for _, other := range wrong {
			if !slices.Contains(exactLines, other) {
				checkReply(t, d, other, impl.Desk{}, "what")
			}
		}
	}
	for _, line := range []string{"", " ", "  ", "   ", strings.Repeat(" ", 3000), "\t", "\r", "\x00", "\xff", "-", "what", "no", "yes", "1", "22", "word", "say", "true", "_", " _", "_ _", "word _", "true _ _", "say N", "digit K", "true K S", "loopsx", "lo", "tellx", "sho", "shows", "hearing", "kept", "swapp", "golomb", "wild", "halved", "still?", "helloword", "say;1", "back,other", "HEAR", "Hear", "hEAR", "heаr", "words 1", "saying 1", "true 1", strings.Repeat("x", 3000)} {
		checkReply(t, d, line, impl.Desk{}, "what")
	}
}

// TestChangedLines has one sign more, less, or another one: what is done then is what the document tells for that line.
func TestChangedLines(t *testing.T) {
	d := desk("3112 22")
	done, other := 0, 0
	check := func(line string) {
		if strings.Contains(line, "\n") {
			return
		}
		got, want := turned(impl.DeskLine(d, line)), plainTurn(d, line)
		if got != want {
			t.Errorf("%q: %v, want %v", line, got, want)
		}
		if got.reply == "what" {
			other++
		} else {
			done++
		}
	}
	for _, line := range append(slices.Clone(exactLines), "say 20", "tell 2,1,2,0,0", "true 2 a,b,ab,ba,c:ab") {
		for at := range len(line) + 1 {
			check(line[:at])
			check(line[at:])
			for sign := range 256 {
				text := string([]byte{byte(sign)})
				check(line[:at] + text + line[at:])
				if at < len(line) {
					check(overlaid(line, at, text))
					check(overlaid(line, at, ""))
				}
			}
		}
	}
	if done < 500 || other < 5000 {
		t.Errorf("%d lines are done, %d are not", done, other)
	}
}
