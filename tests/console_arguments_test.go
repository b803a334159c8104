package tests

import (
	"slices"
	"strings"
	"testing"
	"unsafe"

	"loop.example/g01240/impl"
)

// noDesks holds desks of which one word is none, and some of which both are.
func noDesks() []impl.Desk {
	desks := []impl.Desk{{}, {Word: "0", Kept: "0"}}
	for _, text := range noWords() {
		desks = append(desks, impl.Desk{Word: text, Kept: "22"}, impl.Desk{Word: "1", Kept: text}, impl.Desk{Word: text, Kept: text}, impl.Desk{Word: strings.Repeat("7", 400), Kept: text})
	}
	return desks
}

// checkNoTurn wants that a line is not taken, which is something else than that it is refused.
func checkNoTurn(t *testing.T, d impl.Desk, line string) {
	t.Helper()
	if got := turned(impl.DeskLine(d, line)); got != (turn{}) {
		t.Errorf("%.80q on %.80q: %.80v", line, d, got)
	}
}

func TestDesksThatAreNone(t *testing.T) {
	for _, d := range noDesks() {
		if impl.IsDesk(d) {
			t.Errorf("%q is no desk", d)
		}
		for _, line := range append(slices.Clone(exactLines), "fly", "", "hear 1", "golomb 0") {
			checkNoTurn(t, d, line)
		}
	}
}

func TestLinesThatAreNone(t *testing.T) {
	for _, d := range []impl.Desk{desk("1 22"), desk("3112 3112"), {Word: strings.Repeat("7", 400), Kept: "9"}, {}} {
		for _, line := range exactLines {
			for _, wrong := range []string{line + "\n", "\n" + line, line + "\n" + line, line + "\n\n", line + "\r\n", line + " \n", strings.Replace(line, " ", "\n", 1) + "\n", line[:1] + "\n" + line[1:], line + strings.Repeat(" ", 2999) + "\n"} {
				checkNoTurn(t, d, wrong)
			}
			checkNoTurn(t, d, line+strings.Repeat(" ", 3001-len(line)))
		}
		for _, wrong := range []string{"\n", "\n\n", " \n", "x\n", strings.Repeat("\n", 3000), strings.Repeat("x", 2999) + "\n", "\n" + strings.Repeat("x", 2999), strings.Repeat("x", 3001), strings.Repeat(" ", 3001), strings.Repeat("1", 3002), strings.Repeat("show", 5000), strings.Repeat("\n", 5000), "tell " + strings.Repeat("0,", 1498), "word " + strings.Repeat("1", 3000)} {
			checkNoTurn(t, d, wrong)
		}
	}
}

func TestLinesAtTheBound(t *testing.T) {
	d := desk("3112 22")
	for length := 2990; length <= 3010; length++ {
		for _, line := range []string{strings.Repeat("x", length), strings.Repeat(" ", length), "word " + strings.Repeat("1", length-5), "say " + strings.Repeat("0", length-4), "show" + strings.Repeat(" ", length-4), "tell " + strings.Repeat("0,", (length-6)/2) + strings.Repeat("0", 1+length%2), "true 1 a:" + strings.Repeat("a", length-9), strings.Repeat("\x00", length)} {
			if len(line) != length {
				t.Fatalf("a line of %d bytes: want %d", len(line), length)
			}
			if length > 3000 {
				checkNoTurn(t, d, line)
			} else {
				checkReply(t, d, line, impl.Desk{}, plainTurn(d, line).reply)
			}
		}
	}
	checkReply(t, d, "tell "+strings.Repeat("0,", 1497)+"0", impl.Desk{}, "no")
}

func TestTextsThatAreNoScripts(t *testing.T) {
	texts := []string{"show", " ", "x", "fly", "say 1", "\r", "\nx", "\n ", "show\nshow", "show\n\nshow", "show\n ", "show\n\r", "show\n\x00", "\x00", "show;", "show\r", "hear\nhear\nx", strings.Repeat("\n", 51), strings.Repeat("show\n", 51), strings.Repeat("show\n", 50) + "show", strings.Repeat("show\n", 50) + " ",
		strings.Repeat("\n", 50) + "x", strings.Repeat("\n", 3000), strings.Repeat("\n", 3001), strings.Repeat("x", 3000), strings.Repeat("x", 2999), strings.Repeat("x", 3000) + "\n", strings.Repeat("x", 3001), strings.Repeat("x", 5000) + "\n", strings.Repeat(strings.Repeat(" ", 59)+"\n", 50) + "\n", strings.Repeat(strings.Repeat("x", 60)+"\n", 50), strings.Repeat("show\n", 5000)}
	for _, text := range append(texts, exampleScript[:len(exampleScript)-1], exampleScript+"x", exampleScript+" ", exampleScript+strings.Repeat("x", 3000)+"\n", exampleScript+exampleScript+exampleScript+exampleScript) {
		l, ok := impl.RunScript(text)
		checkZero(t, "RunScript", text, []any{l, ok})
		d, ok := impl.DeskAfter(text)
		checkZero(t, "DeskAfter", text, []any{d, ok})
		numbers, ok := impl.FailedLines(text)
		checkZero(t, "FailedLines", text, []any{numbers, ok})
	}
}

// TestChangedScripts has one byte more, less, or another one: what is no script then is told to be none, and each other one is what its lines are.
func TestChangedScripts(t *testing.T) {
	full := strings.Repeat("x", 2849) + "\n" + strings.Repeat("show 1\n", 21) + "hi\n"
	fifty := strings.Repeat("\n", 49) + "show\n"
	scripts, other := 0, 0
	check := func(text string) {
		lines := strings.Split(text, "\n")
		last := len(lines) - 1
		want := run{joined(nil, false), list([]int{}, false), impl.Desk{}, false}
		if lines[last] == "" && last <= 50 && len(text) <= 3000 {
			want = plainRun(lines[:last])
			scripts++
		} else {
			other++
		}
		if got := runOf(text); got != want {
			t.Errorf("%q: %v, want %v", text, got, want)
		}
	}
	for _, script := range []string{"", "show\n", "say 2\nhear\n", "swap\n\nkeep\n", fifty, full} {
		for at := range len(script) + 1 {
			if len(script) > 500 && at < 2840 {
				continue
			}
			check(script[:at])
			for _, sign := range []string{"\n", " ", "1", "x", "\r", "\x00", "\xff"} {
				check(script[:at] + sign + script[at:])
				if at < len(script) {
					check(overlaid(script, at, sign))
					check(overlaid(script, at, ""))
				}
			}
		}
	}
	if len(full) != 3000 || scripts < 500 || other < 500 {
		t.Errorf("%d texts are scripts, %d are not; the longest one has %d bytes", scripts, other, len(full))
	}
}

// TestAnyBytesAreTaken has texts without order: no call panics, and each tells what the document does.
func TestAnyBytesAreTaken(t *testing.T) {
	mixed := uint32(5)
	next := func(below int) int {
		mixed = mixed*1664525 + 1013904223
		return int(mixed>>12) % below
	}
	signs := []string{" ", " ", "\n", "1", "2", "0", ",", ":", "a", "b", "say", "word", "true", "tell", "hear", "swap", "keep", "digit", "loops", "loop", "\x00", "\xff", "é", "-"}
	for range 3000 {
		text := strings.Builder{}
		for range next(30) {
			text.WriteString(signs[next(len(signs))])
		}
		script := text.String() + "\n"
		lines := strings.Split(script, "\n")
		if got, want := runOf(script), plainRun(lines[:len(lines)-1]); got != want {
			t.Errorf("%q: %v, want %v", script, got, want)
		}
		if line := text.String(); strings.Contains(line, "\n") {
			checkNoTurn(t, desk("1112 9"), line)
		} else if got, want := turned(impl.DeskLine(desk("1112 9"), line)), plainTurn(desk("1112 9"), line); got != want {
			t.Errorf("%q: %v, want %v", line, got, want)
		}
	}
}

func TestListsOfChapter10ShareNoMemory(t *testing.T) {
	for _, script := range []string{exampleScript, "fly\n", "hear\nfly\nshow\n", strings.Repeat("hear\n", 50)} {
		checkNew(t, "RunScript", func() ([]string, bool) { return impl.RunScript(script) }, "nothing")
		checkNew(t, "FailedLines", func() ([]int, bool) { return impl.FailedLines(script) }, 77)
	}
}

// TestTextsOfChapter10AreNew asks where texts lie, as they cannot be written over.
func TestTextsOfChapter10AreNew(t *testing.T) {
	lies := func(text string) [2]uintptr {
		from := uintptr(unsafe.Pointer(unsafe.StringData(text)))
		return [2]uintptr{from, from + uintptr(len(text))}
	}
	script := "show\nword 3112\nshow\nshow\nkeep\nswap\nhear\nback\nloops\nloops\nhear 1\nfly\nfly\ndigit 0\nhear 0\nsay 0\ngolomb 0\nstill\nstill\ntrue 1 a:\nkeep\n"
	given := []string{script, "3112"}
	asked := map[string]func() []string{
		"FirstDesk":  func() []string { d := impl.FirstDesk(); return []string{d.Word, d.Kept} },
		"RunScript":  func() []string { replies, _ := impl.RunScript(script); return replies },
		"DeskAfter":  func() []string { d, _ := impl.DeskAfter(script); return []string{d.Word, d.Kept} },
		"of nothing": func() []string { d, _ := impl.DeskAfter(""); return []string{d.Word, d.Kept} },
	}
	d := impl.Desk{Word: strings.Clone("3112"), Kept: strings.Clone("22112")}
	same := impl.Desk{Word: d.Word, Kept: d.Word}
	given = append(given, d.Word, d.Kept)
	for _, line := range append(slices.Clone(exactLines), "word 1112", "say 0", "fly", "golomb 0", "true 1 a:") {
		given = append(given, line)
		asked[line] = func() []string {
			after, reply, _ := impl.DeskLine(d, line)
			return []string{after.Word, after.Kept, reply}
		}
		asked[line+" of the same"] = func() []string {
			after, reply, _ := impl.DeskLine(same, line)
			return []string{after.Word, after.Kept, reply}
		}
	}
	for name, ask := range asked {
		told := append(ask(), ask()...)
		for at, text := range told {
			for _, other := range append(slices.Clone(given), told[:at]...) {
				// Texts of one sign that the runtime makes of a byte may lie anywhere, and so may no text.
				if a, b := lies(text), lies(other); text == "" || len(text) > 1 && a[0] < b[1] && b[0] < a[1] {
					t.Errorf("%s: the text %q shares memory with %q", name, text, other)
				}
			}
		}
	}
}

// TestDesksAreLeftAlone asks with the same desk and line again and again.
func TestDesksAreLeftAlone(t *testing.T) {
	d := desk("3112 22")
	for _, line := range plainLineTexts() {
		first := turned(impl.DeskLine(d, line))
		if d != desk("3112 22") || turned(impl.DeskLine(d, line)) != first {
			t.Fatalf("%q changes its desk, or tells something else the second time: %q", line, d)
		}
		if got := impl.FirstDesk(); got != desk("1 22") {
			t.Fatalf("the first desk behind %q: %q", line, got)
		}
	}
}

// TestScriptsBesideEachOther asks at the same time, and again: what one call tells is none of the others' business.
func TestScriptsBesideEachOther(t *testing.T) {
	type reply struct {
		script string
		all    run
	}
	answers := make(chan reply)
	scripts := append(mixedScripts()[:100], nil)
	for _, lines := range scripts {
		go func() { answers <- reply{ended(lines), runOf(ended(lines))} }()
	}
	for range scripts {
		if got := <-answers; got.all != runOf(got.script) {
			t.Errorf("%q: %v, want %v", got.script, got.all, runOf(got.script))
		}
	}
}
