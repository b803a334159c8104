package tests

import (
	"slices"
	"strconv"
	"strings"
	"testing"

	"loop.example/g01240/impl"
)

// run is what is known of a script: its replies, the desk behind it and the lines that fail, each with whether there is one.
type run struct {
	replies, failed listed
	behind          impl.Desk
	ok              bool
}

// runOf asks all that may be asked of a script.
func runOf(script string) run {
	behind, ok := impl.DeskAfter(script)
	return run{joined(impl.RunScript(script)), list(impl.FailedLines(script)), behind, ok}
}

// joined keeps texts apart that may have blanks.
func joined(texts []string, ok bool) listed {
	return listed{strings.Join(texts, "|") + "#" + strconv.Itoa(len(texts)), ok}
}

// plainRun takes line after line, as the document tells.
func plainRun(lines []string) run {
	d, replies, failed := desk("1 22"), []string{}, []int{}
	for at, line := range lines {
		done := plainTurn(d, line)
		d, replies = impl.Desk{Word: done.word, Kept: done.kept}, append(replies, done.reply)
		if done.reply == "no" || done.reply == "what" {
			failed = append(failed, at+1)
		}
	}
	return run{joined(replies, true), list(failed, true), d, true}
}

func ended(lines []string) string {
	script := strings.Builder{}
	for _, line := range lines {
		script.WriteString(line + "\n")
	}
	return script.String()
}

// mixedScripts holds lines of scripts, put together without order.
func mixedScripts() [][]string {
	texts := []string{"hear", "back", "other", "tally", "keep", "swap", "show", "length", "still", "loop", "loops", "say 1", "say 2", "say 5", "say 20", "digit 1", "digit 3", "digit 0",
		"word 3", "word 22", "word 1112", "word 0", "word " + strings.Repeat("4", 10), "word 9192", "tell 0,0,0", "tell 1,2,1,0", "tell 9", "golomb 8", "golomb 3001", "wild 9", "halved 19", "halved 999999",
		"true 1 a,b,ab:", "true 2 a,b,ab,ba,c:", "true 1 a:", "true 9 a:", "true 1 a", "hear 1", "fly", "", " ", "say"}
	mixed := uint32(11)
	next := func(below int) int {
		mixed = mixed*1664525 + 1013904223
		return int(mixed>>12) % below
	}
	scripts := [][]string{}
	for size := range 300 {
		lines := []string{}
		for range size % 51 {
			lines = append(lines, texts[next(len(texts))])
		}
		scripts = append(scripts, lines)
	}
	return scripts
}

func TestScriptsAreTheirLines(t *testing.T) {
	longest := 0
	for _, lines := range mixedScripts() {
		script := ended(lines)
		if len(script) > 3000 {
			t.Fatalf("a script of %d bytes", len(script))
		}
		longest = max(longest, len(lines))
		if got, want := runOf(script), plainRun(lines); got != want {
			t.Errorf("%q: %v, want %v", script, got, want)
		}
		d, replies := impl.FirstDesk(), []string{}
		for _, line := range lines {
			after, reply, ok := impl.DeskLine(d, line)
			if !ok {
				t.Fatalf("DeskLine %q of %q fails", line, d)
			}
			d, replies = after, append(replies, reply)
		}
		if got := runOf(script); got.behind != d || got.replies != joined(replies, true) {
			t.Errorf("%q: %v, want %q and %v", script, got, d, replies)
		}
	}
	if longest != 50 {
		t.Errorf("the longest script has %d lines", longest)
	}
}

// TestPartsOfScripts wants that a line tells the same whatever comes behind it.
func TestPartsOfScripts(t *testing.T) {
	for _, lines := range mixedScripts()[:120] {
		all, _ := impl.RunScript(ended(lines))
		failed, _ := impl.FailedLines(ended(lines))
		for size := range len(lines) + 1 {
			first, ok := impl.RunScript(ended(lines[:size]))
			if !ok || !slices.Equal(first, all[:size]) {
				t.Errorf("replies to %q: %q, want %q", lines[:size], first, all[:size])
			}
			few, _ := impl.FailedLines(ended(lines[:size]))
			if len(few) > len(failed) || !slices.Equal(few, failed[:len(few)]) {
				t.Errorf("failed lines of %q: %v, of all %v", lines[:size], few, failed)
			}
		}
	}
}

func TestKnownScripts(t *testing.T) {
	for script, want := range map[string]struct{ replies, failed, behind string }{
		"":                                       {"#0", "", "1 22"},
		"\n":                                     {"what#1", "1", "1 22"},
		"\n\n":                                   {"what|what#2", "1 2", "1 22"},
		" \n":                                    {"what#1", "1", "1 22"},
		"show\n":                                 {"1#1", "", "1 22"},
		"hear\n":                                 {"no#1", "1", "1 22"},
		"fly\n":                                  {"what#1", "1", "1 22"},
		"swap\n":                                 {"22#1", "", "22 1"},
		"word 3\n":                               {"3#1", "", "3 22"},
		" show\n":                                {"what#1", "1", "1 22"},
		"show \n":                                {"what#1", "1", "1 22"},
		"say  1\n":                               {"what#1", "1", "1 22"},
		"show\r\n":                               {"what#1", "1", "1 22"},
		"show\n\nshow\n":                         {"1|what|1#3", "2", "1 22"},
		"\nsay 2\n\n":                            {"what|21|what#3", "1 3", "21 22"},
		"hear\nword 3112\nhear\nhear\nhear\n":    {"no|3112|1112|12|2#5", "1", "2 22"},
		"fly\nshow\nhear\nstill\nshow 1\n":       {"what|1|no|not|what#5", "1 3 5", "1 22"},
		"say 1\nsay 1\nsay 1\nback\nother\n":     {"11|21|1211|1121|122111#5", "", "122111 22"},
		"word 1112\ntally\ntally\nloop\nloops\n": {"1112|3112|211213|7,1|21322314#5", "", "211213 22"},
		"word 111116\nloops\nkeep\n":             {"111116|412223241516 314213241516|111116#3", "", "111116 111116"},
		"true 1 a:\ntrue 1 a,b,ab:\ntell 0,0\n":  {"-|1/2|2,0#3", "", "1 22"},
		"say 21\nsay 20\nsay 01\nsay 0\n":        {"no|no|what|1#4", "1 2 3", "1 22"},
	} {
		got := runOf(script)
		if got.replies.list != want.replies || got.failed != someList(want.failed) || got.behind != desk(want.behind) || !got.ok || !got.replies.ok {
			t.Errorf("%q: %v, want %v", script, got, want)
		}
	}
}

func TestScriptsAtTheBounds(t *testing.T) {
	for count := range 54 {
		for _, line := range []string{"show", "fly", "", "hear", "say 0", "swap", "word " + strings.Repeat("4", 50)} {
			lines := slices.Repeat([]string{line}, count)
			want := run{joined(nil, false), list([]int{}, false), impl.Desk{}, false}
			if count <= 50 {
				want = plainRun(lines)
			}
			if got := runOf(ended(lines)); got != want {
				t.Errorf("%d lines %q: %v, want %v", count, line, got, want)
			}
		}
	}
	for size := 2995; size <= 3005; size++ {
		for _, lines := range [][]string{
			{strings.Repeat("x", size-1)}, {strings.Repeat(" ", size-1)}, {"show", strings.Repeat("1", size-6)}, {"tell " + strings.Repeat("1", size-6)}, {"keep", "tell " + strings.Repeat("0,", (size-12)/2) + strings.Repeat("0", 1+size%2)},
			append(slices.Repeat([]string{"word " + strings.Repeat("7", 394)}, 7), "word "+strings.Repeat("8", size-2806)), append(slices.Repeat([]string{"say " + strings.Repeat("0", 50)}, 49), strings.Repeat("z", size-2696)),
		} {
			script := ended(lines)
			if len(script) != size {
				t.Fatalf("a script of %d bytes: want %d", len(script), size)
			}
			want := run{joined(nil, false), list([]int{}, false), impl.Desk{}, false}
			if size <= 3000 {
				want = plainRun(lines)
			}
			if got := runOf(script); got != want {
				t.Errorf("a script %.40q of %d bytes: %v, want %v", script, size, got, want)
			}
		}
	}
}

func TestFailedLinesAreThoseWithNoOrWhat(t *testing.T) {
	for _, refused := range []string{"fly", "hear", "", "digit 0", "say 21"} {
		for at := range 50 {
			lines := slices.Repeat([]string{"show"}, 50)
			lines[at] = refused
			if got := list(impl.FailedLines(ended(lines))); got != someList(strconv.Itoa(at+1)) {
				t.Errorf("%q as line %d: %v", refused, at+1, got)
			}
		}
	}
	for _, lines := range [][]string{slices.Repeat([]string{"hear"}, 50), slices.Repeat([]string{"what"}, 50), slices.Repeat([]string{"no", "hear"}, 25)} {
		numbers, ok := impl.FailedLines(ended(lines))
		if !ok || !slices.Equal(numbers, counting(1, 1, 50)) {
			t.Errorf("%q: %v, %v", lines, numbers, ok)
		}
	}
}
