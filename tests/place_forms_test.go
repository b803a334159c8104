package tests

import (
	"slices"
	"testing"

	"loop.example/g01240/impl"
)

// bells holds how often so many things, from none on, can be put together in groups: so many forms there are.
const bells = "1 1 2 5 15 52 203 877 4140 21147 115975 678570 4213597 27644437 190899322 1382958545 10480142147 82864869804 682076806159 5832742205057 51724158235372"

// plainForms holds all forms of so many numbers, in order.
func plainForms(n int) [][]int {
	forms := [][]int{}
	for _, text := range allTexts(n, n) {
		if numbers := numbersOf(text); slices.Equal(plainForm(numbers), numbers) {
			forms = append(forms, numbers)
		}
	}
	return forms
}

// nextForm tells the form of as many numbers that comes next: at the last place that allows it the number is greater by one, and behind it all are 1.
func nextForm(form []int) ([]int, bool) {
	for at := len(form) - 1; at > 0; at-- {
		if form[at] <= slices.Max(form[:at]) {
			next := slices.Repeat([]int{1}, len(form))
			copy(next, form[:at])
			next[at] = form[at] + 1
			return next, true
		}
	}
	return nil, false
}

func TestFormOfManyLists(t *testing.T) {
	for _, numbers := range placeLists() {
		want := plainForm(numbers)
		if got := list(impl.FormOfList(numbers)); got != list(want, true) {
			t.Errorf("FormOfList of %v: %v, want %v", numbers, got, want)
		}
		if got := report(impl.IsForm(numbers)); got != (verdict{slices.Equal(numbers, want), true}) {
			t.Errorf("IsForm of %v: %v, its form is %v", numbers, got, want)
		}
		if got := report(impl.IsForm(want)); got != (verdict{true, true}) {
			t.Errorf("IsForm of %v: %v", want, got)
		}
	}
}

func TestIsForm(t *testing.T) {
	for text, want := range map[string]bool{
		"1": true, "1 1": true, "1 2": true, "1 2 1": true, "1 2 1 1 2": true, "1 2 3 1 4": true,
		"0": false, "2": false, "1000": false, "1 0": false, "0 1": false, "2 1": false, "1 3": false, "1 2 4": false, "1 3 2": false, "4 7 4 4 7": false, "2 2": false, "1 2 0": false,
	} {
		if got := report(impl.IsForm(fieldNumbers(text))); got != (verdict{want, true}) {
			t.Errorf("IsForm of %s: %v, want %v", text, got, want)
		}
	}
	for _, numbers := range [][]int{counting(1, 1, 60), slices.Repeat([]int{1}, 60), append(counting(1, 1, 59), 59), append(counting(1, 1, 59), 1)} {
		if got := report(impl.IsForm(numbers)); got != (verdict{true, true}) {
			t.Errorf("IsForm of %v: %v", numbers, got)
		}
	}
	for _, numbers := range [][]int{counting(0, 1, 60), counting(2, 1, 60), slices.Repeat([]int{2}, 60), append(counting(1, 1, 59), 61), append(counting(1, 1, 59), 0)} {
		if got := report(impl.IsForm(numbers)); got != (verdict{false, true}) {
			t.Errorf("IsForm of %v: %v", numbers, got)
		}
	}
}

func TestFormOfKnownDistances(t *testing.T) {
	for text, want := range map[string]string{
		"0": "1", "0 0": "1 2", "0 1": "1 1", "0 0 2 1 3": "1 2 1 1 2", "0 0 0": "1 2 3", "0 1 1": "1 1 1", "0 0 0 3": "1 2 3 1", "0 1 0 2": "1 1 2 1",
	} {
		distances := fieldNumbers(text)
		if got := list(impl.FormOfDistances(distances)); got != someList(want) {
			t.Errorf("FormOfDistances of %s: %v, want %s", text, got, want)
		}
		if got := report(impl.AreDistances(distances)); got != (verdict{true, true}) {
			t.Errorf("AreDistances of %s: %v", text, got)
		}
	}
	for _, text := range []string{"1", "2", "1000", "0 2", "1 0", "0 0 3", "0 1000", "0 0 0 4", "0 1 2", "0 1 1 2", "0 0 2 3 4", "0 0 2 1 4 0 0 5 5", "0 1 2 0"} {
		distances := fieldNumbers(text)
		if got := list(impl.FormOfDistances(distances)); got != (listed{}) {
			t.Errorf("FormOfDistances of %s: %v", text, got)
		}
		if got := report(impl.AreDistances(distances)); got != (verdict{false, true}) {
			t.Errorf("AreDistances of %s: %v", text, got)
		}
	}
}

// TestDistancesHaveOneForm takes all lists of up to six numbers up to six: just those that are the distances back of a form have one.
func TestDistancesHaveOneForm(t *testing.T) {
	for n := 1; n <= 6; n++ {
		formOf := map[string][]int{}
		for _, form := range plainForms(n) {
			formOf[list(plainDistances(form, -1), true).list] = form
		}
		for _, text := range allTexts(n, min(n+2, 7)) {
			distances := numbersOf(lowered(text))
			form, are := formOf[list(distances, true).list]
			if got := list(impl.FormOfDistances(distances)); got != list(form, are) {
				t.Errorf("FormOfDistances of %v: %v, want %v", distances, got, form)
			}
			if got := report(impl.AreDistances(distances)); got != (verdict{are, true}) {
				t.Errorf("AreDistances of %v: %v, want %v", distances, got, are)
			}
		}
	}
}

// TestFormsAreToldByDistances asks the calls alone: a list and its form have the same distances, and no other form has them.
func TestFormsAreToldByDistances(t *testing.T) {
	for _, numbers := range placeLists() {
		back, _ := impl.DistancesBack(numbers)
		form, ok := impl.FormOfList(numbers)
		if got := list(impl.FormOfDistances(back)); !ok || got != list(form, true) {
			t.Errorf("the form of %v is %v, that with its distances %v", numbers, form, got)
		}
		if got := list(impl.DistancesBack(form)); got != list(back, true) {
			t.Errorf("%v has the distances %v, its form %v", numbers, back, got)
		}
		if got := report(impl.AreDistances(back)); got != (verdict{true, true}) {
			t.Errorf("AreDistances of %v: %v", back, got)
		}
		if got := list(impl.FormOfList(form)); got != list(form, true) {
			t.Errorf("the form of the form %v: %v", form, got)
		}
	}
}

func TestDistancesOfLongLists(t *testing.T) {
	for _, distances := range [][]int{make([]int, 60), append([]int{0}, slices.Repeat([]int{1}, 59)...), append(make([]int, 59), 59)} {
		if got := list(impl.FormOfDistances(distances)); !got.ok {
			t.Errorf("FormOfDistances of %v: %v", distances, got)
		}
	}
	for _, distances := range [][]int{append(make([]int, 59), 60), append(make([]int, 59), 1000), slices.Repeat([]int{1}, 60)} {
		if got := list(impl.FormOfDistances(distances)); got != (listed{}) {
			t.Errorf("FormOfDistances of %v: %v", distances, got)
		}
		if got := report(impl.AreDistances(distances)); got != (verdict{false, true}) {
			t.Errorf("AreDistances of %v: %v", distances, got)
		}
	}
}

func TestCountForms(t *testing.T) {
	known := fieldNumbers(bells)
	if len(known) != 21 {
		t.Fatalf("%d counts are known", len(known))
	}
	for n, want := range known {
		if got := count(impl.CountForms(n)); got != (counted{want, true}) {
			t.Errorf("CountForms of %d: %v, want %d", n, got, want)
		}
	}
}

func TestAllFormsAndTheirRanks(t *testing.T) {
	for n, known := range map[int]string{1: "1", 2: "11 12", 3: "111 112 121 122 123"} {
		if got := digitLists(impl.AllForms(n)); got != someList(known) {
			t.Errorf("AllForms of %d: %v", n, got)
		}
	}
	for n := 1; n <= 7; n++ {
		forms := plainForms(n)
		if got := digitLists(impl.AllForms(n)); got != digitLists(forms, true) {
			t.Errorf("AllForms of %d: %v", n, got)
		}
		if got := count(impl.CountForms(n)); got != (counted{len(forms), true}) {
			t.Errorf("CountForms of %d: %v, want %d", n, got, len(forms))
		}
		for rank, form := range forms {
			if got := count(impl.RankOfForm(form)); got != (counted{rank, true}) {
				t.Errorf("RankOfForm of %v: %v, want %d", form, got, rank)
			}
		}
	}
}

func TestFormsOfEightNumbersHaveRanks(t *testing.T) {
	form, rank := slices.Repeat([]int{1}, 8), 0
	for more := true; more && rank <= 4140; rank++ {
		if got := count(impl.RankOfForm(form)); got != (counted{rank, true}) {
			t.Errorf("RankOfForm of %v: %v, want %d", form, got, rank)
		}
		form, more = nextForm(form)
	}
	if rank != 4140 {
		t.Errorf("%d forms have ranks", rank)
	}
}

func TestRanksOfLongForms(t *testing.T) {
	counts := fieldNumbers(bells)
	for n := 1; n <= 20; n++ {
		if got := count(impl.RankOfForm(slices.Repeat([]int{1}, n))); got != (counted{0, true}) {
			t.Errorf("RankOfForm of the first form of %d: %v", n, got)
		}
		if got := count(impl.RankOfForm(counting(1, 1, n))); got != (counted{counts[n] - 1, true}) {
			t.Errorf("RankOfForm of the last form of %d: %v", n, got)
		}
		// Before such a form there are just those that have 1 at the place of its 2, too: with all their first ones put together, the forms of the numbers that are left.
		for ones := 1; ones < n; ones++ {
			form := slices.Repeat([]int{1}, n)
			form[ones] = 2
			if got := count(impl.RankOfForm(form)); got != (counted{counts[n-ones], true}) {
				t.Errorf("RankOfForm of %v: %v, want %d", form, got, counts[n-ones])
			}
		}
	}
	for _, numbers := range mixedLists() {
		form := plainForm(numbers)
		next, more := nextForm(form)
		if len(form) > 20 || !more {
			continue
		}
		rank, behind := count(impl.RankOfForm(form)), count(impl.RankOfForm(next))
		if !rank.ok || behind != (counted{rank.number + 1, true}) {
			t.Errorf("RankOfForm of %v: %v, of the next one %v", form, rank, behind)
		}
	}
}

func TestListsWithoutRank(t *testing.T) {
	lists := [][]int{
		{0}, {2}, {1000}, {1, 3}, {2, 1}, {1, 0}, {4, 7, 4, 4, 7}, {1, 2, 4}, counting(0, 1, 20), counting(2, 1, 20), append(counting(1, 1, 19), 21),
		slices.Repeat([]int{1}, 21), counting(1, 1, 21), slices.Repeat([]int{1}, 60), counting(1, 1, 60),
	}
	for _, numbers := range lists {
		if got := count(impl.RankOfForm(numbers)); got != (counted{}) {
			t.Errorf("RankOfForm of %v: %v", numbers, got)
		}
	}
	if got := count(impl.RankOfForm([]int{1})); got != (counted{0, true}) {
		t.Errorf("RankOfForm of 1: %v", got)
	}
	if got := count(impl.RankOfForm([]int{1, 2, 1})); got != (counted{2, true}) {
		t.Errorf("RankOfForm of 1 2 1: %v", got)
	}
}
