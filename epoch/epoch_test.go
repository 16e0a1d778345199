package epoch

import (
	"peristyle/api"
	"peristyle/poslist"
	"slices"
	"strings"
	"testing"
)

// Ep1

// Born 2, gone 4: seen in 2 and 3.
func TestExample(t *testing.T) {
	for e, want := range []bool{false, false, true, true, false, false, false} {
		if Sees(2, 4, e) != want {
			t.Errorf("Sees(2, 4, %d): %t", e, !want)
		}
		var places []int
		if want {
			places = []int{0}
		}
		visible(t, []api.Run{{Val: 2, Count: 1}}, []api.Mark{{At: 0, Gone: 4}}, e, places)
	}
}

func TestFirst(t *testing.T) {
	if c := First(); c != (api.Clock{Now: 1, Low: 1}) {
		t.Error(c)
	}
	if errno := Check(First()); errno != api.OK {
		t.Error(errno)
	}
}

// clockIs fails if what is told of a clock is not that.
func clockIs(t *testing.T, what string, c api.Clock, number int, got api.Clock, errno api.Errno, want api.Clock, wantErrno api.Errno) {
	t.Helper()
	if got != want || errno != wantErrno {
		t.Errorf("%s of %d, %d: %d, %d, not %d, %d", what, c, number, got, errno, want, wantErrno)
	}
}

// asked fails if Raise to a number, and At it, do not answer that clock, that epoch, and these errors.
func asked(t *testing.T, c api.Clock, number int, raised api.Clock, noRaise api.Errno, at int, noAt api.Errno) {
	t.Helper()
	got, errno := Raise(c, number)
	clockIs(t, "Raise", c, number, got, errno, raised, noRaise)
	if got, errno := At(c, number); got != at || errno != noAt {
		t.Errorf("At(%d, %d): %d, %d, not %d, %d", c, number, got, errno, at, noAt)
	}
}

// numbersAround are numbers to ask a clock for.
func numbersAround(c api.Clock) []int {
	return slices.Concat(edges, []int{c.Low - 1, c.Low, c.Low + 1, c.Now - 1, c.Now, c.Now + 1, -c.Low, -c.Now})
}

// noClock fails if a clock that may not be is not refused by ErrArg, whatever is asked of it.
func noClock(t *testing.T, c api.Clock) {
	t.Helper()
	if errno := Check(c); errno != api.ErrArg {
		t.Errorf("Check(%d): %d", c, errno)
	}
	got, errno := Advance(c)
	clockIs(t, "Advance", c, 0, got, errno, api.Clock{}, api.ErrArg)
	for _, number := range numbersAround(c) {
		asked(t, c, number, api.Clock{}, api.ErrArg, 0, api.ErrArg)
	}
}

// clockAsMeant fails if a clock is told otherwise than by the chapter's words, and tells whether it may be.
func clockAsMeant(t *testing.T, c api.Clock) bool {
	t.Helper()
	if !isClock(c) {
		noClock(t, c)
		return false
	}
	if errno := Check(c); errno != api.OK {
		t.Errorf("Check(%d): %d", c, errno)
	}
	got, errno := Advance(c)
	if c.Now == top {
		clockIs(t, "Advance", c, 0, got, errno, api.Clock{}, api.ErrLimit)
	} else {
		clockIs(t, "Advance", c, 0, got, errno, api.Clock{Now: c.Now + 1, Low: c.Low}, api.OK)
	}
	for _, number := range numbersAround(c) {
		switch {
		case number == 0:
			asked(t, c, number, api.Clock{}, api.ErrEpoch, c.Now, api.OK)
		case number < c.Low || number > c.Now:
			asked(t, c, number, api.Clock{}, api.ErrEpoch, 0, api.ErrEpoch)
		default:
			asked(t, c, number, api.Clock{Now: c.Now, Low: number}, api.OK, number, api.OK)
		}
	}
	return true
}

func TestClocksThatMayBe(t *testing.T) {
	for _, c := range []api.Clock{{Now: 1, Low: 1}, {Now: 2, Low: 1}, {Now: 2, Low: 2}, {Now: 9, Low: 4}, {Now: 1 << 32, Low: 1}, {Now: 1<<32 + 1, Low: 1 << 32}, {Now: top - 1, Low: 1}, {Now: top - 1, Low: top - 1}, {Now: top, Low: 1}, {Now: top, Low: top - 1}, {Now: top, Low: top}} {
		if !clockAsMeant(t, c) {
			t.Errorf("%d may not be", c)
		}
	}
}

func TestClocksThatMayNotBe(t *testing.T) {
	for _, now := range noEpochs {
		noClock(t, api.Clock{Now: now, Low: now})
		noClock(t, api.Clock{Now: now, Low: 1})
		noClock(t, api.Clock{Now: now})
		noClock(t, api.Clock{Now: now, Low: -1})
		noClock(t, api.Clock{Now: now, Low: least})
		noClock(t, api.Clock{Now: now, Low: great})
	}
	for _, now := range []int{1, 2, 3, 1 << 32, top - 1, top} {
		for _, low := range []int{0, -1, -2, -now, least, least + 1, now + 1, now + 2, top + 1, 1 << 62, great - 1, great} {
			noClock(t, api.Clock{Now: now, Low: low})
		}
	}
	noClock(t, api.Clock{})
}

// All pairs of the edges, and of small numbers.
func TestClocks(t *testing.T) {
	may := 0
	for _, now := range slices.Concat(edges, from(4, 9)) {
		for _, low := range slices.Concat(edges, from(4, 9), []int{now - 1, now + 1}) {
			if clockAsMeant(t, api.Clock{Now: now, Low: low}) {
				may++
			}
		}
	}
	if may < 50 {
		t.Errorf("%d alone may be", may)
	}
}

func TestAdvance(t *testing.T) {
	c := First()
	for now := range 1000 {
		if c != (api.Clock{Now: now + 1, Low: 1}) {
			t.Fatal(c)
		}
		c, _ = Advance(c)
	}
	for _, low := range []int{1, 2, top - 2, top - 1} {
		last, errno := Advance(api.Clock{Now: top - 1, Low: low})
		if last != (api.Clock{Now: top, Low: low}) || errno != api.OK {
			t.Error(last, errno)
		}
		none, errno := Advance(last)
		if none != (api.Clock{}) || errno != api.ErrLimit {
			t.Error(none, errno)
		}
	}
}

func TestRaise(t *testing.T) {
	c := api.Clock{Now: 9, Low: 4}
	for low, want := range map[int]api.Errno{least: api.ErrEpoch, -1: api.ErrEpoch, 0: api.ErrEpoch, 1: api.ErrEpoch, 3: api.ErrEpoch, 4: api.OK, 5: api.OK, 8: api.OK, 9: api.OK, 10: api.ErrEpoch, top: api.ErrEpoch, great: api.ErrEpoch} {
		raised := api.Clock{}
		if want == api.OK {
			raised = api.Clock{Now: 9, Low: low}
		}
		got, errno := Raise(c, low)
		clockIs(t, "Raise", c, low, got, errno, raised, want)
	}
	// What is raised is not let down again.
	c, _ = Raise(c, 7)
	for low := range 7 {
		got, errno := Raise(c, low)
		clockIs(t, "Raise", c, low, got, errno, api.Clock{}, api.ErrEpoch)
	}
}

func TestAt(t *testing.T) {
	c := api.Clock{Now: 9, Low: 4}
	for e, want := range map[int]int{0: 9, 4: 4, 5: 5, 8: 8, 9: 9} {
		if got, errno := At(c, e); got != want || errno != api.OK {
			t.Errorf("At(%d, %d): %d, %d", c, e, got, errno)
		}
	}
	for _, e := range []int{least, least + 1, -9, -4, -1, 1, 3, 10, top, top + 1, 1<<32 + 5, great} {
		if got, errno := At(c, e); got != 0 || errno != api.ErrEpoch {
			t.Errorf("At(%d, %d): %d, %d", c, e, got, errno)
		}
	}
}

func TestSees(t *testing.T) {
	for _, c := range []struct {
		born, gone, e int
		want          bool
	}{
		{5, 0, 4, false}, {5, 0, 5, true}, {5, 0, 6, true}, {5, 0, great, true}, {5, 0, 0, false}, {5, 0, -1, false}, {5, 0, least, false},
		{5, 9, 4, false}, {5, 9, 5, true}, {5, 9, 8, true}, {5, 9, 9, false}, {5, 9, 10, false}, {5, 9, great, false},
		// It went in the epoch in which it came, or ahead: it is never seen.
		{5, 5, 4, false}, {5, 5, 5, false}, {5, 5, 6, false}, {5, 4, 3, false}, {5, 4, 4, false}, {5, 4, 5, false}, {5, 6, 5, true}, {5, 6, 6, false},
		// Gone below 0 is an epoch like others; 0 alone is none.
		{-5, -2, -6, false}, {-5, -2, -5, true}, {-5, -2, -3, true}, {-5, -2, -2, false}, {-5, -2, 0, false}, {-5, 0, -5, true}, {-5, 0, -6, false}, {-5, 0, 0, true}, {-5, 1, 0, true}, {-5, 1, 1, false}, {5, -1, 5, false}, {5, -1, 0, false},
		{0, 0, 0, true}, {0, 0, -1, false}, {0, 0, 1, true}, {0, 1, 0, true}, {1, 0, 0, false}, {1, 1, 0, false},
		{least, 0, least, true}, {least, least, least, false}, {least, least + 1, least, true}, {least, great, great - 1, true}, {least, great, great, false}, {least, 0, great, true}, {great, 0, great, true}, {great, 0, great - 1, false}, {great, 0, least, false}, {great, great, great, false}, {great, least, great, false}, {great, least, least, false}, {least + 1, 0, least, false},
	} {
		if got := Sees(c.born, c.gone, c.e); got != c.want {
			t.Errorf("Sees(%d, %d, %d): %t", c.born, c.gone, c.e, got)
		}
	}
}

// All of the edges, and born and gone one below, at and one above each epoch.
func TestSeesAsMeant(t *testing.T) {
	for _, e := range slices.Concat(edges, from(-6, 7)) {
		around := slices.Concat(edges, from(-6, 7), []int{e - 1, e, e + 1})
		for _, born := range around {
			for _, gone := range around {
				if got := Sees(born, gone, e); got != isSeen(born, gone, e) {
					t.Errorf("Sees(%d, %d, %d): %t", born, gone, e, got)
				}
			}
		}
	}
}

// Ep2: Visible

func TestVisible(t *testing.T) {
	born := []api.Run{{Val: 1, Count: 3}, {Val: 3, First: 3, Count: 2}}
	marks := []api.Mark{{At: 0, Gone: 4}, {At: 1, Gone: 2}, {At: 4, Gone: 4}}
	for e, want := range map[int][]int{least: nil, -1: nil, 0: nil, 1: {0, 1, 2}, 2: {0, 2}, 3: {0, 2, 3, 4}, 4: {2, 3}, 5: {2, 3}, top: {2, 3}, top + 1: {2, 3}, great: {2, 3}} {
		visible(t, born, marks, e, want)
	}
	for e, want := range map[int][]int{0: nil, 1: {0, 1, 2}, 2: {0, 1, 2}, 3: {0, 1, 2, 3, 4}, 9: {0, 1, 2, 3, 4}} {
		visible(t, born, nil, e, want)
	}
}

func TestVisibleOfNone(t *testing.T) {
	for _, born := range [][]api.Run{nil, {}} {
		for _, marks := range [][]api.Mark{nil, {}} {
			for _, e := range edges {
				visible(t, born, marks, e, nil)
			}
		}
		for _, at := range slices.Concat(noPlaces, []int{0, 1, rows - 1}) {
			for _, e := range edges {
				notVisible(t, born, []api.Mark{{At: at, Gone: 1}}, e)
			}
		}
	}
}

// All births of up to four rows, with all marks, in each epoch: rows that went as they came, and ahead, among them.
func TestVisibleOfFewRows(t *testing.T) {
	births := [][]int{nil}
	for first := 0; first < len(births) && len(births[first]) < 4; first++ {
		for e := 1; e <= 3; e++ {
			births = append(births, append(slices.Clone(births[first]), e))
		}
	}
	for _, numbers := range births {
		states := 1
		for range numbers {
			states *= 4
		}
		for state := range states {
			gone := make([]int, len(numbers))
			for at, rest := 0, state; at < len(gone); at, rest = at+1, rest/4 {
				gone[at] = rest % 4
			}
			for e := -1; e <= 4; e++ {
				if !visibleAsMeant(t, birthsOf(numbers...), marksOf(gone...), e) {
					t.Fatalf("%d, %d may not be", numbers, gone)
				}
			}
		}
	}
}

// Births may be of any numbers, in any order, and each number may be asked.
func TestVisibleOfAnyNumbers(t *testing.T) {
	numbers := []int{5, 3, top, great, 0, least, -1, 1, 1, 1, top + 1, least, 2, great - 1, -top, 3, 5, 5}
	born := birthsOf(numbers...)
	marks := []api.Mark{{At: 0, Gone: 6}, {At: 1, Gone: 3}, {At: 2, Gone: top}, {At: 3, Gone: 1}, {At: 4, Gone: 1}, {At: 5, Gone: top}, {At: 8, Gone: 2}, {At: 15, Gone: 2}, {At: 17, Gone: 7}}
	for _, asked := range slices.Concat(edges, numbers, []int{6, 7}) {
		for _, e := range []int{asked - 1, asked, asked + 1} {
			visibleAsMeant(t, born, marks, e)
			visibleAsMeant(t, born, nil, e)
			for k := range marks {
				visibleAsMeant(t, born, marks[k:k+1], e)
			}
		}
	}
	visible(t, born, marks, 0, []int{4, 5, 6, 11, 14})
	visible(t, born, marks, least, []int{5, 11})
	visible(t, born, marks, great, []int{6, 7, 9, 10, 11, 12, 13, 14, 16})
}

// One run, of rows of which each, none, the first, the last and those of the midst went.
func TestVisibleOfOneRun(t *testing.T) {
	for _, count := range []int{1, 2, 3, 63, 64, 65, 1000, rows - 1, rows} {
		for _, val := range []int{1, 5, top, 0, -1, least, great} {
			born := []api.Run{{Val: val, Count: count}}
			for _, e := range []int{val, val - 1, val + 1, 0, 8, 9, 10} {
				for _, places := range [][]int{nil, {0}, {count - 1}, {count / 2}, from(0, count), every(0, 2, (count+1)/2)} {
					marks, errno := deletedOf(nil, places, 9)
					if errno != api.OK || !visibleAsMeant(t, born, marks, e) {
						t.Fatalf("%d, %d.. may not be", born, short(marks))
					}
				}
			}
		}
	}
}

// As many rows as may be, and one more.
func TestVisibleOfManyRows(t *testing.T) {
	for _, born := range [][]api.Run{{{Val: 3, Count: rows}}, {{Val: 3, Count: 1}, {Val: 4, First: 1, Count: rows - 1}}, {{Val: 4, Count: rows - 1}, {Val: 3, First: rows - 1, Count: 1}}, birthsOf(from(1, rows+1)...), birthsOf(every(rows, -1, rows)...), stir(1).births(rows, 6)} {
		for _, marks := range [][]api.Mark{nil, {{At: 0, Gone: 4}}, {{At: rows - 1, Gone: 4}}, all(), stir(2).marks(rows, 7)} {
			for _, e := range []int{least, 0, 1, 2, 3, 4, 5, 6, 7, rows - 1, rows, rows + 1, top, great} {
				if !visibleAsMeant(t, born, marks, e) {
					t.Fatalf("%d.., %d.. may not be", short(born), short(marks))
				}
			}
			more := append(slices.Clone(born), api.Run{Val: least, First: rows, Count: 1})
			for _, e := range []int{least, 0, 1, 3, top, great} {
				notVisible(t, more, marks, e)
			}
		}
	}
}

func TestVisibleOfWrongBirths(t *testing.T) {
	for _, born := range wrongBirths() {
		if areRuns(born, rows) {
			t.Fatalf("%d.. may be", short(born))
		}
		for _, e := range edges {
			notVisible(t, born, nil, e)
			notVisible(t, born, []api.Mark{{At: 0, Gone: 1}}, e)
			notVisible(t, born, []api.Mark{{At: 0, Gone: 0}}, e)
			notVisible(t, born, []api.Mark{{At: rows - 1, Gone: 1}}, e)
		}
	}
}

func TestVisibleOfWrongMarks(t *testing.T) {
	for _, marks := range wrongMarks() {
		if areMarks(marks) {
			t.Fatalf("%d.. may be", short(marks))
		}
		for _, e := range edges {
			notVisible(t, []api.Run{{Val: 1, Count: rows}}, marks, e)
			notVisible(t, []api.Run{{Val: 1, Count: 3}, {Val: 2, First: 3, Count: 2}}, marks, e)
			notVisible(t, nil, marks, e)
		}
	}
}

// A mark's At is a place of the births, or none.
func TestVisibleOfMarksBehindTheBirths(t *testing.T) {
	for _, count := range []int{1, 2, 3, 64, 1000, rows - 2, rows - 1} {
		for _, born := range [][]api.Run{{{Val: 2, Count: count}}, birthsOf(from(1, count+1)...)} {
			for _, e := range []int{least, -1, 0, 1, 2, 3, count, top, great} {
				visible(t, born, []api.Mark{{At: count - 1, Gone: 1}}, least, nil)
				visibleAsMeant(t, born, []api.Mark{{At: count - 1, Gone: 3}}, e)
				notVisible(t, born, []api.Mark{{At: count, Gone: 3}}, e)
				notVisible(t, born, []api.Mark{{At: count - 1, Gone: 3}, {At: count, Gone: 3}}, e)
				notVisible(t, born, []api.Mark{{At: 0, Gone: 3}, {At: rows - 1, Gone: 3}}, e)
				notVisible(t, born, all(), e)
			}
		}
	}
}

// The answer is in its own best form, whichever that is.
func TestVisibleForms(t *testing.T) {
	for _, c := range []struct {
		born  []int
		marks []api.Mark
		form  int
		want  []int
	}{
		{[]int{1, 1, 1}, nil, api.FormPlaces, []int{0, 1, 2}},
		{[]int{1, 1, 1, 1}, nil, api.FormSpans, []int{0, 1, 2, 3}},
		{[]int{1, 3, 2, 1, 2}, nil, api.FormSpans, []int{0, 1, 2, 3, 4}}, // runs that touch are one span
		{[]int{1, 9, 1, 9, 1, 9, 1, 9, 1}, nil, api.FormWords, []int{0, 2, 4, 6, 8}},
		{[]int{1, 1, 1, 1, 1, 1}, []api.Mark{{At: 2, Gone: 5}}, api.FormWords, []int{0, 1, 3, 4, 5}},
		{[]int{1, 1, 1, 1, 1, 1}, []api.Mark{{At: 0, Gone: 5}, {At: 2, Gone: 6}}, api.FormSpans, []int{1, 2, 3, 4, 5}},
		{[]int{9, 9}, nil, api.FormSpans, nil},
		{[]int{1, 1}, []api.Mark{{At: 0, Gone: 5}, {At: 1, Gone: 5}}, api.FormSpans, nil},
	} {
		got, errno := Visible(birthsOf(c.born...), c.marks, 5)
		if errno != api.OK || got.Form() != c.form {
			t.Errorf("Visible(%d, %d, 5): form %d, %d", c.born, c.marks, got.Form(), errno)
		}
		visible(t, birthsOf(c.born...), c.marks, 5, c.want)
	}
}

// Any births and marks, at each epoch that they have, one ahead of it and one behind it.
func TestVisibleAsMeant(t *testing.T) {
	s := stir(3)
	for range 3000 {
		count := s.below(100)
		born, marks := s.births(count, 1+s.below(12)), s.marks(count, 1+s.below(14))
		for e := -1; e <= 15; e++ {
			if !visibleAsMeant(t, born, marks, e) {
				t.Fatalf("%d, %d may not be", born, marks)
			}
		}
	}
}

// Ep2: Delete

func TestDelete(t *testing.T) {
	marks := []api.Mark{{At: 1, Gone: 2}}
	deletes(t, marks, []int{0, 4}, 4, []api.Mark{{At: 0, Gone: 4}, {At: 1, Gone: 2}, {At: 4, Gone: 4}}, api.OK)
	deletes(t, marks, []int{0}, 1, []api.Mark{{At: 0, Gone: 1}, {At: 1, Gone: 2}}, api.OK)
	deletes(t, marks, []int{2, 3}, 2, []api.Mark{{At: 1, Gone: 2}, {At: 2, Gone: 2}, {At: 3, Gone: 2}}, api.OK)
	deletes(t, marks, []int{1}, 4, nil, api.ErrNone)
	deletes(t, marks, []int{0, 1, 2}, 4, nil, api.ErrNone)
	deletes(t, marks, nil, 4, marks, api.OK)
	deletes(t, nil, []int{5, 7}, top, []api.Mark{{At: 5, Gone: top}, {At: 7, Gone: top}}, api.OK)
	deletes(t, nil, nil, 1, nil, api.OK)
}

func TestDeleteOfTheZeroList(t *testing.T) {
	for _, marks := range [][]api.Mark{nil, {}, {{At: 0, Gone: top}}, {{At: 3, Gone: 1}, {At: rows - 1, Gone: 7}}, all()} {
		for _, e := range []int{1, 2, top - 1, top} {
			got, errno := Delete(marks, poslist.List{}, e)
			if !slices.Equal(got, marks) || errno != api.OK {
				t.Errorf("Delete(%d.., the zero List, %d): %d.., %d", short(marks), e, short(got), errno)
			}
		}
		for _, e := range noEpochs {
			got, errno := Delete(marks, poslist.List{}, e)
			if len(got) != 0 || errno != api.ErrArg {
				t.Errorf("Delete(%d.., the zero List, %d): %d.., %d", short(marks), e, short(got), errno)
			}
		}
	}
}

// All marks of up to six places, and all lists of these.
func TestDeleteOfFewPlaces(t *testing.T) {
	for state := range 1 << 6 {
		gone := make([]int, 6)
		for at := range gone {
			gone[at] = state >> at % 2 * (3 + at)
		}
		for wanted := range 1 << 6 {
			var places []int
			for at := range 6 {
				if wanted>>at%2 == 1 {
					places = append(places, at)
				}
			}
			for _, e := range []int{1, 5, top} {
				errno := deletesAsMeant(t, marksOf(gone...), places, e)
				if (errno == api.ErrNone) != (state&wanted != 0) {
					t.Fatalf("the test tells %d of %d and %d", errno, gone, places)
				}
			}
		}
	}
}

// Places ahead of all marks, between them, behind all; and one that they have, as the first, in the midst, as the last one of the list.
func TestDeleteAroundMarks(t *testing.T) {
	marks := []api.Mark{{At: 10, Gone: 8}, {At: 20, Gone: 3}, {At: 21, Gone: 3}, {At: 30, Gone: 9}}
	for _, places := range [][]int{{0}, {9}, {0, 9}, from(0, 10), {11}, {19}, {11, 19}, {22, 29}, {31}, {rows - 1}, from(31, rows), {0, 15, 25, 40}, slices.Concat(from(0, 10), from(11, 20), from(22, 30), from(31, rows))} {
		if errno := deletesAsMeant(t, marks, places, 5); errno != api.OK {
			t.Errorf("%d..: %d", short(places), errno)
		}
	}
	for _, places := range [][]int{{10}, {20}, {21}, {30}, {10, 11, 12}, {9, 10, 11}, {8, 9, 10}, {0, 10}, {20, 22, 25}, {19, 20, 22}, {18, 19, 20}, {22, 23, 30}, {0, 30, rows - 1}, {30, rows - 1}, from(0, 11), from(30, rows), from(0, rows), {10, 20, 21, 30}} {
		if errno := deletesAsMeant(t, marks, places, 5); errno != api.ErrNone {
			t.Errorf("%d..: %d", short(places), errno)
		}
	}
}

func TestDeleteOfAllPlaces(t *testing.T) {
	for _, e := range []int{1, 7, top} {
		want := make([]api.Mark, rows)
		for at := range want {
			want[at] = api.Mark{At: at, Gone: e}
		}
		deletes(t, nil, from(0, rows), e, want, api.OK)
		deletes(t, want[:1], from(1, rows), e, want, api.OK)
		deletes(t, want[rows-1:], from(0, rows-1), e, want, api.OK)
		deletes(t, want[:rows-1], []int{rows - 1}, e, want, api.OK)
		deletes(t, want[1:], []int{0}, e, want, api.OK)
		deletes(t, want, nil, e, want, api.OK)
		for _, places := range [][]int{{0}, {rows - 1}, {2000}, from(0, rows), every(1, 2, rows/2)} {
			deletes(t, want, places, e, nil, api.ErrNone)
			deletes(t, all(), places, e, nil, api.ErrNone)
		}
	}
	deletes(t, all(), nil, 3, all(), api.OK)
}

func TestDeleteOfPlacesBeyond(t *testing.T) {
	last := 1<<16 - 1
	deletes(t, nil, []int{rows - 1}, 2, []api.Mark{{At: rows - 1, Gone: 2}}, api.OK)
	for _, places := range [][]int{{rows}, {last}, {0, rows}, {rows - 1, rows}, {rows, rows + 1}, {3, last}, from(0, rows+1), from(rows, last+1), from(0, last+1)} {
		for _, marks := range [][]api.Mark{nil, {{At: 0, Gone: 1}}, {{At: 3, Gone: 1}, {At: rows - 1, Gone: 4}}, all()} {
			for _, e := range []int{1, top, 0, top + 1} {
				deletes(t, marks, places, e, nil, api.ErrArg) // ahead of ErrNone, too
			}
		}
	}
}

func TestDeleteInNoEpoch(t *testing.T) {
	for _, e := range noEpochs {
		for _, marks := range [][]api.Mark{nil, {{At: 0, Gone: 1}}, {{At: 3, Gone: 1}, {At: rows - 1, Gone: 4}}, all()} {
			for _, places := range [][]int{nil, {0}, {1}, {3}, {rows - 1}, {rows}, from(0, rows)} {
				deletes(t, marks, places, e, nil, api.ErrArg)
			}
		}
	}
}

func TestDeleteOfWrongMarks(t *testing.T) {
	for _, marks := range wrongMarks() {
		for _, places := range [][]int{nil, {0}, {2}, {4}, {5}, {rows - 1}, {rows}, from(0, rows)} {
			for _, e := range []int{1, 5, top, 0, -1, top + 1} {
				deletes(t, marks, places, e, nil, api.ErrArg)
			}
		}
	}
}

func TestDeleteAsMeant(t *testing.T) {
	s := stir(4)
	told := map[api.Errno]int{}
	for range 3000 {
		marks, places := s.marks(s.below(90), 9), s.places(s.below(90))
		if s.below(2) == 0 {
			places = slices.DeleteFunc(places, func(at int) bool { return Gone(marks, at) != 0 })
		}
		told[deletesAsMeant(t, marks, places, 1+s.below(9))]++
	}
	if told[api.OK] < 500 || told[api.ErrNone] < 500 {
		t.Errorf("told: %d", told)
	}
}

// Ep2: Gone

func TestGone(t *testing.T) {
	marks := []api.Mark{{At: 2, Gone: 7}, {At: 3, Gone: 1}, {At: 9, Gone: top}}
	for at, want := range map[int]int{least: 0, -3: 0, -2: 0, -1: 0, 0: 0, 1: 0, 2: 7, 3: 1, 4: 0, 8: 0, 9: top, 10: 0, rows - 1: 0, rows: 0, 1<<32 + 2: 0, 1<<32 + 9: 0, great: 0} {
		goneIs(t, marks, at, want)
		goneIs(t, nil, at, 0)
		goneIs(t, []api.Mark{}, at, 0)
	}
	for at, mark := range all() {
		goneIs(t, all()[:at+1], at, mark.Gone)
		if at%97 == 0 {
			goneIs(t, all(), at, mark.Gone)
			goneIs(t, all()[:at], at, 0)
		}
	}
	for _, at := range noPlaces {
		goneIs(t, all(), at, 0)
	}
}

// Of marks that may not be as well: whatever Gone the mark with that At has, wherever it stands.
func TestGoneOfWrongMarks(t *testing.T) {
	for _, marks := range wrongMarks() {
		for _, at := range slices.Concat(noPlaces, from(0, 7), []int{rows - 2, rows - 1}) {
			want := 0
			for _, mark := range slices.Backward(marks) {
				if mark.At == at {
					want = mark.Gone // of several the first one
				}
			}
			goneIs(t, marks, at, want)
		}
	}
	falling := []api.Mark{{At: 9, Gone: 1}, {At: 7, Gone: 2}, {At: great, Gone: 3}, {At: 5, Gone: least}, {At: least, Gone: 5}, {At: 3, Gone: great}, {At: -1, Gone: -7}, {At: 1, Gone: 0}}
	for _, mark := range falling {
		goneIs(t, falling, mark.At, mark.Gone)
	}
	for _, at := range []int{0, 2, 4, 6, 8, 10, -2, least + 1, great - 1} {
		goneIs(t, falling, at, 0)
	}
}

// Ep3

func TestPutAndTake(t *testing.T) {
	for _, c := range []struct {
		marks []api.Mark
		bytes string
	}{
		{nil, "\x00"}, {[]api.Mark{}, "\x00"},
		{[]api.Mark{{At: 0, Gone: 1}}, "\x02\x02\x02"},
		{[]api.Mark{{At: 1, Gone: 1}}, "\x02\x04\x02"},
		{[]api.Mark{{At: 62, Gone: 63}}, "\x02\x7e\x7e"},
		{[]api.Mark{{At: 63, Gone: 64}}, "\x02\x80\x01\x80\x01"},
		{[]api.Mark{{At: rows - 1, Gone: 1}}, "\x02\x80\x40\x02"},
		{[]api.Mark{{At: 0, Gone: top}}, "\x02\x02\x80\x80\x80\x80\x80\x40"},
		{[]api.Mark{{At: 0, Gone: top - 1}}, "\x02\x02\xfe\xff\xff\xff\xff\x3f"},
		{[]api.Mark{{At: 0, Gone: 4}, {At: 1, Gone: 2}, {At: 4, Gone: 4}}, "\x06\x02\x08\x02\x04\x06\x08"},
		{[]api.Mark{{At: 5, Gone: 9}, {At: 6, Gone: 8}}, "\x04\x0c\x12\x02\x10"},
		{[]api.Mark{{At: 0, Gone: 1}, {At: rows - 1, Gone: 2}}, "\x04\x02\x02\xfe\x3f\x04"},
	} {
		puts(t, c.marks, c.bytes)
		for _, behind := range []string{"", "x", "\x00", "\x02", "\x80", "\xff", c.bytes, strings.Repeat("\x02", 50)} {
			takes(t, c.bytes+behind, c.marks, len(c.bytes))
		}
	}
}

func TestPutOfManyMarks(t *testing.T) {
	for _, marks := range [][]api.Mark{all(), all()[:rows-1], all()[1:], all()[rows-1:], all()[63:], all()[:64]} {
		bytes := bytesOf(marks)
		puts(t, marks, bytes)
		takes(t, bytes, marks, len(bytes))
		takes(t, bytes+bytes, marks, len(bytes))
		takesNone(t, bytes[:len(bytes)-1])
	}
}

func TestPutOfWrongMarks(t *testing.T) {
	for _, marks := range wrongMarks() {
		if got, errno := Put(marks); got != "" || errno != api.ErrArg {
			t.Errorf("Put(%d..): %x.., %d", short(marks), short([]byte(got)), errno)
		}
	}
}

// What no marks may be is not taken of bytes either.
func TestTakeOfWrongMarks(t *testing.T) {
	for _, marks := range wrongMarks() {
		bytes := bytesOf(marks)
		takesNone(t, bytes)
		takesNone(t, bytes+"\x02\x02")
		takesAsMeant(t, bytesOf(nil)+bytes)
	}
}

func TestTakeOfFewBytes(t *testing.T) {
	takesNone(t, "")
	takes(t, "\x00", nil, 1)
	for _, s := range []string{"\x01", "\x02", "\x03", "\x80", "\xff", "\x02\x02", "\x02\x80", "\x02\x02\x80", "\x04\x02\x02", "\x04\x02\x02\x02", "\x02\x00\x02", "\x02\x01\x02", "\x02\x02\x00", "\x02\x02\x01", "\x04\x02\x02\x00\x02", "\x04\x04\x02\x01\x02"} {
		takesNone(t, s)
	}
}

// How many marks there are: below 0, more than follow, as many as there may be, and one more.
func TestTakeOfCounts(t *testing.T) {
	marks := all()
	for _, count := range []int{-1, -2, -rows, least, least + 1, rows + 1, rows + 2, 1 << 16, 1 << 32, 1<<32 + 3, -1 << 32, top, great - 1, great} {
		for _, behind := range []string{"", "\x02\x02", strings.Repeat("\x02", 6), bytesOf(marks)[2:], bytesOf(marks)[2:] + "\x02\x02\x02\x02"} {
			takesNone(t, putAll(count)+behind)
		}
	}
	for _, count := range []int{0, 1, 2, 3, 63, 64, 65, rows - 1, rows} {
		bytes := bytesAs(count, marks)
		takes(t, bytes, marks[:count], len(bytesOf(marks[:count])))
		takes(t, bytesOf(marks[:count]), marks[:count], len(bytesOf(marks[:count])))
		if count < rows {
			takesNone(t, bytesAs(count+1, marks[:count]))
			takesNone(t, bytesAs(rows, marks[:count]))
		}
		takesNone(t, bytesAs(rows+1, marks[:count]))
	}
}

// How far a mark is from the one ahead: the first one, one of the midst, the last one.
func TestTakeOfSteps(t *testing.T) {
	for _, step := range []int{0, -1, -2, -rows, -1 << 32, least, least + 1, least + 2, least + 3, great, great - 1, great - 2, great - 3, great - rows, 1 << 62, 1 << 32, 1<<32 + 1, 2 * rows, rows + 1} {
		takesNone(t, putAll(1, step, 1))
		takesNone(t, putAll(2, step, 1, 1, 1))
		takesNone(t, putAll(3, 1, 1, step, 1, 1, 1))
		takesNone(t, putAll(3, 1, 1, 1, 1, step, 1))
		takesNone(t, putAll(3, 2000, 1, step, 1, step, 1))
		// Whatever takes it back, in part or as a whole.
		takesNone(t, putAll(3, 9, 1, step, 1, -step, 1))
		takesNone(t, putAll(3, 9, 1, step, 1, 2-step, 1))
		takesNone(t, putAll(2, step, 1, 1-step, 1))
	}
	for _, c := range []struct{ ahead, step int }{{-1, rows}, {0, rows - 1}, {1, rows - 2}, {rows - 2, 1}, {2000, rows - 2001}} {
		marks := []api.Mark{{At: c.ahead, Gone: 3}, {At: rows - 1, Gone: 4}}
		if c.ahead < 0 {
			marks = marks[1:]
		}
		takes(t, bytesOf(marks), marks, len(bytesOf(marks)))
		for _, more := range []int{1, 2, rows, great - c.step} {
			numbers := []int{2, c.ahead + 1, 3, c.step + more, 4}
			if c.ahead < 0 {
				numbers = []int{1, c.step + more, 4}
			}
			takesNone(t, putAll(numbers...))
		}
		takesNone(t, bytesAs(len(marks)+1, marks)+putAll(1, 4))
	}
}

func TestTakeOfGone(t *testing.T) {
	for _, gone := range noEpochs {
		takesNone(t, putAll(1, 1, gone))
		takesNone(t, putAll(1, rows, gone))
		takesNone(t, putAll(3, 1, gone, 1, 1, 1, 1))
		takesNone(t, putAll(3, 1, 1, 1, gone, 1, 1))
		takesNone(t, putAll(3, 1, 1, 1, 1, 1, gone))
	}
	for _, gone := range []int{1, 2, 1 << 31, 1 << 32, top - 1, top} {
		marks := []api.Mark{{At: 0, Gone: gone}, {At: 7, Gone: 1}, {At: 9, Gone: gone}}
		takes(t, bytesOf(marks), marks, len(bytesOf(marks)))
		puts(t, marks, bytesOf(marks))
	}
}

// A number of more bytes than it needs, of too many bits, or cut off is none, wherever it stands.
func TestTakeOfWrongNumbers(t *testing.T) {
	nines := strings.Repeat("\xff", 9)
	good := []string{"\x04", "\x02", "\x06", "\x04", "\x08"}
	takes(t, strings.Join(good, ""), []api.Mark{{At: 0, Gone: 3}, {At: 2, Gone: 4}}, 5)
	for at, own := range good {
		long, longer := string([]byte{own[0] | 0x80, 0}), string([]byte{own[0] | 0x80, 0x80, 0})
		for _, number := range []string{long, longer, "\x80\x00", nines + "\x00", nines + "\x02", nines + "\x80\x00", strings.Repeat("\x80", 10) + "\x01", strings.Repeat("\x80", 64)} {
			parts := slices.Clone(good)
			parts[at] = number
			takesNone(t, strings.Join(parts, ""))
			takesNone(t, strings.Join(parts[:at+1], ""))
		}
	}
	takesNone(t, "\x80\x00")
	takesNone(t, "\x80\x80\x00")
}

// Bytes that are cut at each place, and such with others behind.
func TestTakeOfBytesThatAreCut(t *testing.T) {
	s := stir(5)
	for range 60 {
		marks := s.marks(1+s.below(400), top)
		bytes := bytesOf(marks)
		takes(t, bytes, marks, len(bytes))
		for k := range len(bytes) {
			takesNone(t, bytes[:k])
			takesAsMeant(t, bytes[k:])
			takes(t, bytes+bytes[:k], marks, len(bytes))
		}
	}
}

// The bytes of marks, of which one is another byte.
func TestTakeOfChangedBytes(t *testing.T) {
	s := stir(6)
	taken, others := 0, 0
	for range 200 {
		bytes := []byte(bytesOf(s.marks(1+s.below(30), 1<<(1+s.below(40)))))
		for at, b := range bytes {
			for bit := range 8 {
				for _, changed := range []byte{b ^ 1<<bit, b + 1<<bit, b - 1<<bit} {
					bytes[at] = changed
					if takesAsMeant(t, string(bytes)) {
						taken++
					} else {
						others++
					}
				}
			}
			bytes[at] = b
		}
	}
	if taken < 1000 || others < 1000 {
		t.Errorf("%d were taken, %d not", taken, others)
	}
}

// Any short bytes.
func TestTakeOfAnyBytes(t *testing.T) {
	const letters = "\x00\x01\x02\x03\x04\x06\x3f\x40\x7f\x80\x81\xff"
	bytes := []string{""}
	taken := 0
	for first := 0; first < len(bytes); first++ {
		if takesAsMeant(t, bytes[first]) {
			taken++
		}
		for k := 0; k < len(letters) && len(bytes[first]) < 5; k++ {
			bytes = append(bytes, bytes[first]+letters[k:k+1])
		}
		if t.Failed() {
			t.FailNow()
		}
	}
	if taken < 10000 {
		t.Errorf("%d alone were taken", taken)
	}
}

// Long bytes are given up where they can be no marks any more.
func TestTakeOfLongBytes(t *testing.T) {
	for _, one := range []string{"\x80", "\xff", "\x01", "\x02", "\x7f", "\x82\x01"} {
		for _, count := range []int{0, 1, rows, rows + 1, great, least} {
			takesAsMeant(t, putAll(count)+strings.Repeat(one, 1<<22))
		}
		takesAsMeant(t, strings.Repeat(one, 1<<22))
	}
}

func TestPutGoesBack(t *testing.T) {
	s := stir(7)
	for range 2000 {
		marks := s.marks(s.below(300), 1<<(1+s.below(40)))
		bytes, errno := Put(marks)
		if errno != api.OK || bytes != bytesOf(marks) {
			t.Fatalf("Put(%d..): %x.., %d", short(marks), short([]byte(bytes)), errno)
		}
		takes(t, bytes, marks, len(bytes))
		takes(t, bytes+string(rune(s.below(256))), marks, len(bytes))
	}
}

func TestWhatIsTakenIsPut(t *testing.T) {
	s := stir(8)
	taken := 0
	for range 200000 {
		bytes := make([]byte, s.below(9))
		for k := range bytes {
			bytes[k] = byte(s.below(1 << (1 + s.below(8))))
		}
		if l, used, errno := Take(string(bytes)); errno == api.OK {
			taken++
			puts(t, l, string(bytes[:used]))
		}
	}
	if taken < 1000 {
		t.Errorf("%d alone were taken", taken)
	}
}

// Ep4

// told are the places that are seen in each of some epochs, from 1 on.
func told(t *testing.T, born []api.Run, marks []api.Mark, last int) [][]int {
	t.Helper()
	seen := make([][]int, last+1)
	for e := 1; e <= last; e++ {
		l, errno := Visible(born, marks, e)
		if errno != api.OK {
			t.Fatalf("Visible(%d.., %d.., %d): %d", short(born), short(marks), e, errno)
		}
		seen[e] = slices.Collect(l.Places())
	}
	return seen
}

// What is seen in an epoch is the same behind each Delete in a later one, and behind rows that come later.
func TestWhatWasSeenStays(t *testing.T) {
	s := stir(9)
	for range 300 {
		c := First()
		var numbers []int
		var marks []api.Mark
		for range 25 {
			now, _ := At(c, 0)
			ahead := told(t, birthsOf(numbers...), marks, now-1)
			switch s.below(4) {
			case 0:
				c, _ = Advance(c)
			case 1:
				numbers = append(numbers, slices.Repeat([]int{now}, 1+s.below(6))...)
			default:
				seen, _ := Visible(birthsOf(numbers...), marks, now)
				went := listOf(t, slices.DeleteFunc(slices.Collect(seen.Places()), func(int) bool { return s.below(3) > 0 }), 1+s.below(3))
				more, errno := Delete(marks, went, now)
				if errno != api.OK {
					t.Fatalf("Delete of what is seen: %d", errno)
				}
				left, _ := Visible(birthsOf(numbers...), more, now)
				isList(t, "what is left", left, slices.Collect(seen.Less(went).Places()))
				marks = more
			}
			for e, places := range told(t, birthsOf(numbers...), marks, now-1) {
				if !slices.Equal(places, ahead[e]) {
					t.Fatalf("in %d, seen in %d: %d, then %d", e, now, ahead[e], places)
				}
			}
			bytes, _ := Put(marks)
			takes(t, bytes, marks, len(bytes))
		}
	}
}

// Deleting in any order of epochs changes nothing ahead of the one in which rows go.
func TestDeleteChangesLaterEpochsAlone(t *testing.T) {
	s := stir(10)
	for range 1000 {
		count := 1 + s.below(40)
		born, marks := s.births(count, 9), s.marks(count, 12)
		places := slices.DeleteFunc(s.places(count), func(at int) bool { return Gone(marks, at) != 0 })
		e := 1 + s.below(12)
		more, errno := Delete(marks, listOf(t, places, 1+s.below(3)), e)
		if errno != api.OK {
			t.Fatalf("Delete(%d, %d, %d): %d", marks, places, e, errno)
		}
		ahead, behind := told(t, born, marks, 14), told(t, born, more, 14)
		for at := 1; at <= 14; at++ {
			want := ahead[at]
			if at >= e {
				want = slices.DeleteFunc(slices.Clone(want), func(place int) bool { return slices.Contains(places, place) })
			}
			if !slices.Equal(behind[at], want) {
				t.Fatalf("in %d, with %d gone in %d: %d, not %d", at, places, e, behind[at], want)
			}
		}
	}
}

// A row that is seen is seen in each epoch till it goes, and in none from then on.
func TestRowsAreSeenTillTheyGo(t *testing.T) {
	s := stir(11)
	for range 300 {
		count := 1 + s.below(60)
		born, marks := s.births(count, 9), s.marks(count, 12)
		seen := told(t, born, marks, 14)
		for at, number := range numbersOf(born) {
			gone := Gone(marks, at)
			for e := 1; e <= 14; e++ {
				if slices.Contains(seen[e], at) != Sees(number, gone, e) {
					t.Fatalf("the row at %d, born %d, gone %d, in %d", at, number, gone, e)
				}
				stays := e > 1 && slices.Contains(seen[e-1], at) && gone != e
				came := number == e && (gone == 0 || gone > e)
				if slices.Contains(seen[e], at) != (stays || came) {
					t.Fatalf("the row at %d, born %d, gone %d, in %d: %t", at, number, gone, e, !(stays || came))
				}
			}
		}
	}
	for _, born := range edges {
		for _, gone := range edges {
			for _, e := range edges[:len(edges)-1] {
				if Sees(born, gone, e) && gone != e+1 && !Sees(born, gone, e+1) {
					t.Errorf("Sees(%d, %d, %d), and not in the next one", born, gone, e)
				}
				if gone != 0 && gone <= e && Sees(born, gone, e) {
					t.Errorf("Sees(%d, %d, %d)", born, gone, e)
				}
			}
		}
	}
}

// R1 to R4

// What is handed in stays as it is, and what lies behind its end, too, and is not read.
func TestRulesOfArguments(t *testing.T) {
	roomOfMarks := []api.Mark{{At: 1, Gone: 2}, {At: 4, Gone: 3}, {At: 4, Gone: -1}, {At: 0, Gone: 9}, {At: great, Gone: least}}
	roomOfRuns := []api.Run{{Val: 1, Count: 3}, {Val: 3, First: 3, Count: 2}, {Val: 3, First: 9, Count: -1}}
	keptMarks, keptRuns := slices.Clone(roomOfMarks), slices.Clone(roomOfRuns)
	marks, born := roomOfMarks[:2], roomOfRuns[:2]
	list := listOf(t, []int{0, 2, 3}, api.FormPlaces)
	for range 2 {
		visible(t, born, marks, 3, []int{0, 2, 3})
		visible(t, born[:1], marks[:1], 3, []int{0, 2})
		visible(t, born[:0], marks[:0], 3, nil)
		notVisible(t, born[:1], marks, 3)
		notVisible(t, roomOfRuns, marks, 3)
		notVisible(t, born, roomOfMarks, 3)
		deletes(t, marks, []int{0, 2, 3}, 5, []api.Mark{{At: 0, Gone: 5}, {At: 1, Gone: 2}, {At: 2, Gone: 5}, {At: 3, Gone: 5}, {At: 4, Gone: 3}}, api.OK)
		deletes(t, marks, nil, 5, marks, api.OK)
		deletes(t, marks[:1], []int{4}, 5, []api.Mark{{At: 1, Gone: 2}, {At: 4, Gone: 5}}, api.OK)
		deletes(t, marks[:0], []int{1}, 5, []api.Mark{{At: 1, Gone: 5}}, api.OK)
		deletes(t, marks, []int{0, 4}, 5, nil, api.ErrNone)
		deletes(t, roomOfMarks, []int{0}, 5, nil, api.ErrArg)
		if got, errno := Delete(marks, list, 5); len(got) != 5 || errno != api.OK {
			t.Errorf("Delete: %d, %d", got, errno)
		}
		goneIs(t, marks, 0, 0)
		goneIs(t, marks[:1], 4, 0)
		goneIs(t, marks[:0], 1, 0)
		puts(t, marks, "\x04\x04\x04\x06\x06")
		puts(t, marks[:1], "\x02\x04\x04")
		puts(t, marks[:0], "\x00")
		isList(t, "the list", list, []int{0, 2, 3})
	}
	if !slices.Equal(roomOfMarks, keptMarks) || !slices.Equal(roomOfRuns, keptRuns) {
		t.Errorf("they became %d, %d", roomOfMarks, roomOfRuns)
	}
	long := "\x02\x04\x04\x04\x06\x06\x02"
	takes(t, long[1:6], marks, 5)
	takesNone(t, long[1:5])
	takesNone(t, long[:2])
}

// What is answered is new memory, also where nothing was to be added.
func TestRulesOfAnswers(t *testing.T) {
	room := []api.Mark{{At: 1, Gone: 2}, {At: 4, Gone: 3}, {At: 9, Gone: 9}, {At: 10, Gone: 9}}
	marks := room[:2]
	kept := slices.Clone(room)
	for _, places := range [][]int{nil, {0}, {7}, {0, 2, 7}} {
		list := listOf(t, places, api.FormPlaces)
		got, _ := Delete(marks, list, 5)
		again, _ := Delete(marks, list, 5)
		want := slices.Clone(again)
		clear(got[:cap(got)])
		_ = append(got[:0], room[2], room[2], room[2], room[2], room[2])
		if !slices.Equal(again, want) || !slices.Equal(room, kept) || !slices.Equal(slices.Collect(list.Places()), places) {
			t.Errorf("Delete of %d shares memory: %d, %d", places, again, room)
		}
	}
	for _, none := range [][]api.Mark{room[:0], room[4:]} {
		got, _ := Delete(none, poslist.List{}, 5)
		_ = append(got, api.Mark{At: 77, Gone: 77})
		if !slices.Equal(room, kept) {
			t.Errorf("Delete of none shares memory: %d", room)
		}
	}
	taken, used, _ := Take("\x04\x04\x04\x06\x06")
	again, _, _ := Take("\x04\x04\x04\x06\x06")
	clear(taken[:cap(taken)])
	if !slices.Equal(again, marks) || used != 5 {
		t.Errorf("Take shares memory: %d, %d", again, used)
	}
}

// What was answered stays what it was when that of which it was made changes.
func TestAnswersKeepNothing(t *testing.T) {
	born, marks := []api.Run{{Val: 1, Count: 5}}, []api.Mark{{At: 1, Gone: 2}}
	l, _ := Visible(born, marks, 3)
	more, _ := Delete(marks, l, 4)
	bytes, _ := Put(more)
	clear(born)
	clear(marks)
	isList(t, "Visible", l, []int{0, 2, 3, 4})
	if want := []api.Mark{{At: 0, Gone: 4}, {At: 1, Gone: 2}, {At: 2, Gone: 4}, {At: 3, Gone: 4}, {At: 4, Gone: 4}}; !slices.Equal(more, want) || bytes != bytesOf(want) {
		t.Errorf("%d, %x", more, bytes)
	}
}

// No call panics, whatever it is given, and the same is answered again.
func TestAnyArguments(t *testing.T) {
	s := stir(12)
	numbers := slices.Concat(edges, noPlaces, from(0, 8), from(0, 8), from(0, 8), []int{rows - 1})
	number := func() int { return numbers[s.below(len(numbers))] }
	might := 0
	for range 60000 {
		marks := make([]api.Mark, s.below(4))
		for k := range marks {
			marks[k] = api.Mark{At: number(), Gone: number()}
		}
		born := make([]api.Run, s.below(4))
		for k := range born {
			born[k] = api.Run{Val: number(), First: number(), Count: number()}
		}
		if s.below(2) == 0 {
			marks, born = s.marks(4, 5), s.births(s.below(7), 5)
		}
		e := number()
		clockAsMeant(t, api.Clock{Now: number(), Low: number()})
		if visibleAsMeant(t, born, marks, e) {
			might++
		}
		deletesAsMeant(t, marks, s.places(8), e)
		if put, errno := Put(marks); areMarks(marks) != (errno == api.OK) || errno == api.OK && put != bytesOf(marks) || errno != api.OK && (put != "" || errno != api.ErrArg) {
			t.Errorf("Put(%d): %x, %d", marks, put, errno)
		}
		takesAsMeant(t, putAll(number(), number(), number(), number(), number()))
		first, second := Gone(marks, e), Gone(marks, e)
		if first != second {
			t.Errorf("Gone(%d, %d): %d, then %d", marks, e, first, second)
		}
		if t.Failed() {
			t.FailNow()
		}
	}
	if might < 10000 {
		t.Errorf("%d alone might be", might)
	}
}
