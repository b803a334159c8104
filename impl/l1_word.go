package impl

import (
	"bytes"
	"iter"
	"slices"
	"strings"
)

const MaxWord = 400
const MaxTimes = 20

// A said run tells its length as one digit, so no longer one can be said.
const maxSaidRun = 9

// The counts of words up to this length fit into an int, even of nine digits.
const maxCountedLength = 18

// IsWord reports whether a text is a word.
func IsWord(w string) bool {
	return len(w) <= MaxWord && isDigitText(w)
}

// IsSpeakable reports whether a word is speakable.
func IsSpeakable(w string) (bool, bool) {
	longest, ok := LongestRun(w)
	return ok && longest <= maxSaidRun, ok
}

// RunsOf returns for each run, in order, its digit and how many digits it has.
func RunsOf(w string) ([][]int, bool) {
	if !IsWord(w) {
		return nil, false
	}
	runs := [][]int{}
	for part := range runParts([]byte(w)) {
		runs = append(runs, []int{digitOf(part[0]), len(part)})
	}
	return runs, true
}

// WordOfRuns returns the word with such runs. It fails if there is none.
func WordOfRuns(runs [][]int) (string, bool) {
	text := make([]byte, 0, MaxWord)
	before := 0
	for _, run := range runs {
		// The room is compared, not the sum, as the sum of any two numbers may overflow.
		if !isRun(run) || run[0] == before || run[1] > MaxWord-len(text) {
			return "", false
		}
		text = append(text, bytes.Repeat([]byte{signOf(run[0])}, run[1])...)
		before = run[0]
	}
	return asWord(string(text))
}

// SayWord returns what is said. It fails if the word is not speakable.
func SayWord(w string) (string, bool) {
	if speakable, _ := IsSpeakable(w); !speakable {
		return "", false
	}
	return asWord(sayText(w))
}

// HearWord returns what is heard. It fails if there is none.
func HearWord(w string) (string, bool) {
	if !IsWord(w) || len(w)%2 != 0 {
		return "", false
	}
	runs := make([][]int, 0, len(w)/2)
	for at := 0; at < len(w); at += 2 {
		runs = append(runs, []int{digitOf(w[at+1]), digitOf(w[at])})
	}
	return WordOfRuns(runs)
}

// SayTimes returns the word said, this said again, and so on, so many times.
func SayTimes(w string, times int) (string, bool) {
	way, ok := WayOfWord(w, times)
	if !ok {
		return "", false
	}
	return way[times], true
}

// HearTimes returns what is heard by hearing as often as it can be done, at most MaxTimes times, and how often that is.
func HearTimes(w string) (string, int, bool) {
	if !IsWord(w) {
		return "", 0, false
	}
	heard, times := strings.Clone(w), 0
	for times < MaxTimes {
		next, ok := HearWord(heard)
		if !ok {
			break
		}
		heard, times = next, times+1
	}
	return heard, times, true
}

// WayOfWord returns the word, the word said, and so on, up to that behind so many times.
func WayOfWord(w string, times int) ([]string, bool) {
	if !IsWord(w) || !isWithin(times, 0, MaxTimes) {
		return nil, false
	}
	return wayFrom(strings.Clone(w), times, SayWord)
}

// LengthSaid returns how many digits the said word has: twice the number of runs.
// That number may exceed MaxWord: it is no word itself, so no limit bounds it.
func LengthSaid(w string) (int, bool) {
	if speakable, _ := IsSpeakable(w); !speakable {
		return 0, false
	}
	length := 0
	for range runParts([]byte(w)) {
		length += 2
	}
	return length, true
}

// CountDigit returns how often a digit is in a word.
func CountDigit(w string, digit int) (int, bool) {
	if !IsWord(w) || !isDigit(digit) {
		return 0, false
	}
	return bytes.Count([]byte(w), []byte{signOf(digit)}), true
}

// BackWord returns the word with its digits in the other order.
func BackWord(w string) (string, bool) {
	if !IsWord(w) {
		return "", false
	}
	signs := []byte(w)
	slices.Reverse(signs)
	return string(signs), true
}

// SayOther returns what is said if each digit is told before how many there are: BackWord of what is said of the word backwards.
func SayOther(w string) (string, bool) {
	back, ok := BackWord(w)
	if !ok {
		return "", false
	}
	said, ok := SayWord(back)
	if !ok {
		return "", false
	}
	return BackWord(said)
}

// IsStill reports whether a word is what is said of it: only 22 is.
func IsStill(w string) (bool, bool) {
	if !IsWord(w) {
		return false, false
	}
	// A word that cannot be said is no failure here: nothing said of it is the word.
	said, ok := SayWord(w)
	return ok && said == w, true
}

// CountWords returns how many words of a length, 1..18, there are of the digits up to a number, 1..9, with no run longer than longest, 1..18.
func CountWords(length int, digits int, longest int) (int, bool) {
	if !isWithin(length, 1, maxCountedLength) || !isDigit(digits) || !isWithin(longest, 1, maxCountedLength) {
		return 0, false
	}
	counts := make([]int, length+1)
	for n := 1; n <= length; n++ {
		for last := 1; last <= min(longest, n); last++ {
			if last == n {
				counts[n] += digits
			} else {
				counts[n] += counts[n-last] * (digits - 1)
			}
		}
	}
	return counts[length], true
}

// CountHeard returns how many words of a length, 1..18, of the digits up to a number, 1..9, can be heard: none for an odd length.
func CountHeard(length int, digits int) (int, bool) {
	if !isWithin(length, 1, maxCountedLength) || !isDigit(digits) {
		return 0, false
	}
	if length%2 != 0 {
		return 0, true
	}
	count := digits * digits
	for range length/2 - 1 {
		count *= digits * (digits - 1)
	}
	return count, true
}

// LongestRun returns how many digits the longest run has.
func LongestRun(w string) (int, bool) {
	if !IsWord(w) {
		return 0, false
	}
	longest := 0
	for part := range runParts([]byte(w)) {
		longest = max(longest, len(part))
	}
	return longest, true
}

// SumOfWord returns the sum of all digits.
func SumOfWord(w string) (int, bool) {
	if !IsWord(w) {
		return 0, false
	}
	sum := 0
	for at := range len(w) {
		sum += digitOf(w[at])
	}
	return sum, true
}

// wayFrom returns what there is first, what it is changed into, and so on, up to that behind so many times.
func wayFrom[T any](first T, times int, change func(T) (T, bool)) ([]T, bool) {
	way := make([]T, 0, times+1)
	way = append(way, first)
	for at := range times {
		next, ok := change(way[at])
		if !ok {
			return nil, false
		}
		way = append(way, next)
	}
	return way, true
}

// runParts tells the runs of signs one by one, so that saying needs no list of them.
// No part has room behind it: appending to one would write into the next.
func runParts(signs []byte) iter.Seq[[]byte] {
	return func(yield func([]byte) bool) {
		start := 0
		for end := 1; end <= len(signs); end++ {
			if end < len(signs) && signs[end] == signs[start] {
				continue
			}
			if !yield(signs[start:end:end]) {
				return
			}
			start = end
		}
	}
}

// sayText says a text of runs that are short enough; what is said may be longer than a word.
func sayText(w string) string {
	said := make([]byte, 0, 2*len(w))
	join := func(parts ...[]byte) {
		for _, part := range parts {
			said = append(said, part...)
		}
	}
	for run := range runParts([]byte(w)) {
		join([]byte{signOf(len(run))}, run[:1:1])
	}
	return string(said)
}

// asWord keeps a text only if it is a word, as a result that is none makes a call fail.
func asWord(text string) (string, bool) {
	if !IsWord(text) {
		return "", false
	}
	return text, true
}

func isRun(run []int) bool {
	return len(run) == 2 && isDigit(run[0]) && run[1] >= 1
}

func isDigitText(text string) bool {
	for at := range len(text) {
		if text[at] < '1' || text[at] > '9' {
			return false
		}
	}
	return text != ""
}

func isDigit(digit int) bool {
	return isWithin(digit, 1, 9)
}

func isWithin(number int, least int, most int) bool {
	return least <= number && number <= most
}

func digitOf(sign byte) int {
	return int(sign - '0')
}

func signOf(digit int) byte {
	return byte('0' + digit)
}
