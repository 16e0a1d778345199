package mover

import (
	"math"
	"math/big"
	"peristyle/api"
	"slices"
	"strings"
	"testing"
)

const (
	places  = 1 << 12 // below which marks are
	numbers = 1 << 16 // that runs may have
	top     = 1 << 40 // the last epoch
	least   = math.MinInt
	great   = math.MaxInt
)

// sizes are those of lists: few, and around how many marks, and numbers of runs, there may be.
var sizes = []int{0, 1, 2, 64, places - 1, places, places + 1, numbers - 1, numbers, numbers + 1}

// smallSizes are those of them that do not take long.
var smallSizes = []int{0, 1, 2, 3, 8, 9, 64, 65}

// edges are numbers around what epochs may be, some of which are like one in fewer bits.
var edges = []int{least, least + 1, -top - 1, -top, -1 << 32, -2, -1, 0, 1, 2, 3, 1 << 31, 1 << 32, 1<<32 + 1, top - 1, top, top + 1, 2 * top, great - 1, great}

// noEpochs are numbers in which no row went.
var noEpochs = []int{0, -1, -2, -1 << 32, -top, least, least + 1, top + 1, top + 2, 2 * top, 1 << 62, great - 1, great}

// noPlaces are numbers at which no mark is.
var noPlaces = []int{-1, -2, -places, -1 << 32, least, least + 1, places, places + 1, 2 * places, 1 << 16, 1 << 32, 1<<32 + 1, great - 1, great}

// num is a number's cell, txt a text's.
func num(n int) api.Cell { return api.Cell{Kind: api.Int, N: n} }

func txt(s string) api.Cell { return api.Cell{Kind: api.Text, S: s} }

// nums are numbers as a row.
func nums(l ...int) api.Row {
	var made api.Row
	for _, n := range l {
		made = append(made, num(n))
	}
	return made
}

// from are the numbers from one on, below another.
func from(lo, hi int) []int {
	l := []int{}
	for k := lo; k < hi; k++ {
		l = append(l, k)
	}
	return l
}

// reversed is a list, the other way round.
func reversed[T any](l []T) []T {
	l = slices.Clone(l)
	slices.Reverse(l)
	return l
}

// with is a list with another one at a place.
func with[T any](l []T, at int, one T) []T {
	made := slices.Clone(l)
	made[at] = one
	return made
}

// ones are so many rows of a number each, that tells its place.
func ones(count int) []api.Row {
	l := make([]api.Row, count)
	for k := range l {
		l[k] = nums(k)
	}
	return l
}

// life is a row of a number, with its epochs.
func life(n, born, gone int) api.Live { return api.Live{Row: nums(n), Born: born, Gone: gone} }

// livesGone are so many lives, whose rows tell their places, and that went in what is told of these.
func livesGone(count int, gone func(at int) int) []api.Live {
	l := make([]api.Live, count)
	for k := range l {
		l[k] = life(k, 1+k%5, gone(k))
	}
	return l
}

// livesBorn are likewise so many, that did not go.
func livesBorn(count int, born func(at int) int) []api.Live {
	l := make([]api.Live, count)
	for k := range l {
		l[k] = life(k, born(k), 0)
	}
	return l
}

// oddCells may not be.
func oddCells() []api.Cell {
	return []api.Cell{{N: 1}, {N: least}, {S: "a"}, {Kind: api.Int, S: "a"}, {Kind: api.Int, N: 1, S: "a"}, {Kind: api.Text, N: 7}, {Kind: api.Text, N: 7, S: "a"}, {Kind: 3}, {Kind: -1}, {Kind: 256}, {Kind: 257}, {Kind: 1<<32 + 1}, {Kind: least}, {Kind: great}, txt(strings.Repeat("x", 33)), txt(strings.Repeat("x", 300))}
}

// anyRows are of unlike lengths and cells, those that may not be among them.
func anyRows() []api.Row {
	l := []api.Row{nil, {}, {{}}, nums(7), {txt("it's")}, {txt("")}, nums(1, 2, 3, 4, 5, 6, 7, 8), nums(9, 8, 7, 6, 5, 4, 3, 2, 1), {num(1), {}, txt("a")}, nums(least, great, 0, -1), make(api.Row, 8), make(api.Row, 9), {txt("\x00\xff\x80"), num(5)}, slices.Repeat(nums(3), 300), nil}
	for _, odd := range oddCells() {
		l = append(l, api.Row{odd}, api.Row{num(1), odd, {}})
	}
	return l
}

// stirrer gives numbers by a fixed rule.
type stirrer struct{ word uint64 }

func stir(seed int) *stirrer { return &stirrer{uint64(seed)*2 + 1} }

func (s *stirrer) below(n int) int {
	s.word = s.word*6364136223846793005 + 1442695040888963407
	return int(s.word >> 33 % uint64(n))
}

// one is one of a list.
func one[T any](s *stirrer, l []T) T { return l[s.below(len(l))] }

// row is a short one, of few cells.
func (s *stirrer) row() api.Row {
	var r api.Row
	for range s.below(5) {
		r = append(r, one(s, []api.Cell{{}, num(-1), num(0), num(1), num(2), txt(""), txt("a"), txt("b"), {N: 1}}))
	}
	return r
}

// rows are so many of them.
func (s *stirrer) rows(count int) []api.Row {
	l := make([]api.Row, count)
	for k := range l {
		l[k] = s.row()
	}
	return l
}

// vals are so many numbers, of few that are unlike.
func (s *stirrer) vals(count, most int) []int {
	l := make([]int, count)
	often := 1 + s.below(5)
	for k := range l {
		if k > 0 && s.below(often) > 0 {
			l[k] = l[k-1]
			continue
		}
		l[k] = 1 + s.below(most)
	}
	return l
}

// marks are some that may be, at places below one, of epochs from 1 to one.
func (s *stirrer) marks(below, most int) []api.Mark {
	var l []api.Mark
	often := 1 + s.below(6)
	for at := range min(below, places) {
		if s.below(often) == 0 {
			l = append(l, api.Mark{At: at, Gone: 1 + s.below(most)})
		}
	}
	return l
}

// lives are so many, of epochs from 1 to one, some of which went, at places where marks may be.
func (s *stirrer) lives(count, most int) []api.Live {
	l := make([]api.Live, count)
	born, often := s.vals(count, most), 1+s.below(6)
	for k := range l {
		l[k] = api.Live{Row: s.row(), Born: born[k]}
		if k < places && s.below(often) == 0 {
			l[k].Gone = 1 + s.below(most)
		}
	}
	return l
}

// oddLives are so many of any epochs, whether they are some or not.
func (s *stirrer) oddLives(count int) []api.Live {
	l := make([]api.Live, count)
	for k := range l {
		l[k] = api.Live{Row: one(s, anyRows()[:12]), Born: one(s, edges), Gone: one(s, edges)}
	}
	return l
}

// The chapter's words, and those of the layers 10 and 21.

// isSeen tells whether a row is seen: it is not, if it came later, or went by then.
func isSeen(l api.Live, e int) bool {
	if l.Born > e {
		return false
	}
	went := l.Gone != 0 && l.Gone <= e
	return !went
}

// seenOf are the lives whose rows are seen, in order.
func seenOf(l []api.Live, e int) []api.Live {
	var seen []api.Live
	for _, one := range l {
		if isSeen(one, e) {
			seen = append(seen, one)
		}
	}
	return seen
}

// mergedOf are those of a, then those of b, that did not go, or later.
func mergedOf(a, b []api.Live, low int) []api.Live {
	var made []api.Live
	for _, l := range [][]api.Live{a, b} {
		for _, one := range l {
			switch {
			case one.Gone == 0, one.Gone > low:
				made = append(made, one)
			}
		}
	}
	return made
}

// runsOf are the runs of numbers: those alike are cut off, again and again; none of too many.
func runsOf(vals ...int) []api.Run {
	l := []api.Run{}
	if len(vals) > numbers {
		return l
	}
	for from := 0; from < len(vals); {
		to := from + 1
		for to < len(vals) && vals[to] == vals[from] {
			to++
		}
		l = append(l, api.Run{Val: vals[from], First: from, Count: to - from})
		from = to
	}
	return l
}

// vectorsOf are the rows, births and marks of lives.
func vectorsOf(l []api.Live) ([]api.Row, []api.Run, []api.Mark) {
	rows, born, marks := []api.Row{}, []int{}, []api.Mark{}
	for at, one := range l {
		rows = append(rows, one.Row)
		born = append(born, one.Born)
		if one.Gone != 0 {
			marks = append(marks, api.Mark{At: at, Gone: one.Gone})
		}
	}
	return rows, runsOf(born...), marks
}

// areRuns tells whether runs may be, by great numbers.
func areRuns(l []api.Run) bool {
	ahead := new(big.Int)
	for k, run := range l {
		if ahead.Cmp(big.NewInt(int64(run.First))) != 0 || run.Count < 1 || k > 0 && run.Val == l[k-1].Val {
			return false
		}
		ahead.Add(ahead, big.NewInt(int64(run.Count)))
	}
	return ahead.Cmp(big.NewInt(numbers)) <= 0
}

// areMarks tells whether marks may be.
func areMarks(l []api.Mark) bool {
	for k, mark := range l {
		if mark.At < 0 || mark.At >= places || mark.Gone < 1 || mark.Gone > top {
			return false
		}
		if k > 0 && l[k-1].At >= mark.At {
			return false
		}
	}
	return true
}

// livesOf are the lives of rows, births and marks; false, if these may not be, or not together.
func livesOf(rows []api.Row, born []api.Run, marks []api.Mark) ([]api.Live, bool) {
	if !areRuns(born) || !areMarks(marks) {
		return nil, false
	}
	var vals []int
	for _, run := range born {
		vals = append(vals, slices.Repeat([]int{run.Val}, run.Count)...)
	}
	if len(vals) != len(rows) {
		return nil, false
	}
	gone := map[int]int{}
	for _, mark := range marks {
		if mark.At >= len(rows) {
			return nil, false
		}
		gone[mark.At] = mark.Gone
	}
	l := []api.Live{}
	for at, row := range rows {
		l = append(l, api.Live{Row: row, Born: vals[at], Gone: gone[at]})
	}
	return l, true
}

// projectedOf are the cells of columns; false, if one is below 0, or a row has it not.
func projectedOf(rows []api.Row, cols []int) ([]api.Row, bool) {
	made := []api.Row{}
	for _, row := range rows {
		cells := api.Row{}
		for _, col := range cols {
			if col < 0 || col >= len(row) {
				return nil, false
			}
			cells = append(cells, row[col])
		}
		made = append(made, cells)
	}
	return made, len(cols) == 0 || slices.Min(cols) >= 0
}

// kindsOf are the kinds of columns; false, if one is none of the table's.
func kindsOf(t api.Table, cols []int) ([]int, bool) {
	kinds := []int{}
	for _, col := range cols {
		found := false
		for k, column := range t.Columns {
			if k == col {
				kinds, found = append(kinds, column.Kind), true
			}
		}
		if !found {
			return nil, false
		}
	}
	return kinds, true
}

// wrongRuns are runs that may not be, of so many numbers (at least 4), each with what is wrong at the first, a middle or the last place.
func wrongRuns(count int) [][]api.Run {
	return [][]api.Run{
		{{}}, {{Val: 1}}, {{Val: 1, Count: -1}}, {{Val: 1, Count: -count}}, {{Val: 1, Count: least}}, {{Val: 1, Count: great}}, {{Val: 1, Count: numbers + 1}}, {{Val: 1, Count: count + 1<<32}},
		{{Val: 1, First: 1, Count: count}}, {{Val: 1, First: 1, Count: count - 1}}, {{Val: 1, First: -1, Count: count}}, {{Val: 1, First: -1, Count: count + 1}}, {{Val: 1, First: least, Count: count}}, {{Val: 1, First: great, Count: count}},
		{{Val: 1, First: 1, Count: 2}, {Val: 2, First: 3, Count: count - 3}}, {{Val: 1, First: 1, Count: 2}, {Val: 2, First: 2, Count: count - 2}},
		{{Val: 1, Count: 1}, {Val: 2, Count: count - 1}}, {{Val: 1, Count: 2}, {Val: 2, First: 1, Count: count - 2}}, {{Val: 1, Count: 2}, {Val: 2, First: 3, Count: count - 2}}, {{Val: 1, Count: 2}, {Val: 2, First: 3, Count: count - 3}}, {{Val: 1, Count: 1}, {Val: 2, First: least, Count: count - 1}}, {{Val: 1, Count: count - 1}, {Val: 2, First: great, Count: 1}},
		{{Val: 1, Count: 1}, {Val: 2, First: 2, Count: 1}, {Val: 1, First: 2, Count: count - 2}}, {{Val: 1, Count: 1}, {Val: 2, First: 1, Count: 1}, {Val: 1, First: 1, Count: count - 2}},
		{{Val: 1, Count: count}, {Val: 2, First: count}}, {{Val: 1}, {Val: 2, Count: count}}, {{Val: 1, Count: 2}, {Val: 2, First: 2}, {Val: 3, First: 2, Count: count - 2}},
		{{Val: 1, Count: count + 1}, {Val: 2, First: count + 1, Count: -1}}, {{Val: 1, Count: -1}, {Val: 2, First: -1, Count: count + 1}}, {{Val: 1, Count: 2}, {Val: 2, First: 2, Count: -1}, {Val: 3, First: 1, Count: count - 1}},
		{{Val: 1, Count: 2}, {Val: 1, First: 2, Count: count - 2}}, {{Val: 2, Count: 2}, {Val: 1, First: 2, Count: 1}, {Val: 1, First: 3, Count: count - 3}}, {{Val: 0, Count: 1}, {Val: 0, First: 1, Count: count - 1}}, {{Val: 1, Count: 1}, {Val: 1, First: 1, Count: 1}, {Val: 2, First: 2, Count: count - 2}}, {{Val: least, Count: 1}, {Val: great, First: 1, Count: 1}, {Val: great, First: 2, Count: 1}, {Val: 2, First: 3, Count: count - 3}},
		{{Val: 1, Count: count}, {Val: 2, First: count, Count: numbers - count + 1}}, {{Val: 1, Count: count}, {Val: 2, First: count, Count: great}},
		{{Val: 1, Count: great}, {Val: 2, First: great, Count: great}, {Val: 1, First: -2, Count: count + 2}}, {{Val: 1, Count: 1 << 62}, {Val: 2, First: 1 << 62, Count: 1 << 62}, {Val: 1, First: least, Count: 1 << 62}, {Val: 2, First: -1 << 62, Count: 1 << 62}, {Val: 1, Count: count}},
	}
}

// wrongMarks are marks that may not be: each fault in the first one, in one of the midst, in the last one, and alone.
func wrongMarks() [][]api.Mark {
	var lists [][]api.Mark
	three := []api.Mark{{At: 0, Gone: 1}, {At: 2, Gone: 1}, {At: 3, Gone: 1}}
	put := func(wrong api.Mark, where int) {
		lists = append(lists, []api.Mark{wrong}, with(three, where, wrong))
	}
	for where, mark := range three {
		for _, gone := range noEpochs {
			put(api.Mark{At: mark.At, Gone: gone}, where)
		}
		for _, at := range noPlaces {
			put(api.Mark{At: at, Gone: 1}, where)
		}
	}
	for _, ats := range [][]int{{0, 0}, {3, 3}, {1, 0}, {3, 0}, {3, 2}, {0, 0, 1}, {0, 1, 1}, {0, 2, 2, 3}, {2, 1, 3}, {0, 3, 2}, {0, 1, 3, 2}, {0, 1, 2, 0}, {1, 2, 3, 2}, {3, 2, 1, 0}, {0, 1, 2, 3, 3}, {0, 0, 1, 2, 3}} {
		var l []api.Mark
		for _, at := range ats {
			l = append(l, api.Mark{At: at, Gone: 5})
		}
		lists = append(lists, l)
	}
	return lists
}

// What fails a test.

// short is a list as it is told: its beginning alone.
func short[T any](l []T) []T { return l[:min(len(l), 8)] }

func sameRow(a, b api.Row) bool { return slices.Equal(a, b) }

func sameRows(a, b []api.Row) bool { return slices.EqualFunc(a, b, sameRow) }

func sameLives(a, b []api.Live) bool {
	return slices.EqualFunc(a, b, func(x, y api.Live) bool {
		return sameRow(x.Row, y.Row) && x.Born == y.Born && x.Gone == y.Gone
	})
}

// merges fails if Merge does not answer these lives.
func merges(t *testing.T, a, b []api.Live, low int, want ...api.Live) {
	t.Helper()
	if got := Merge(a, b, low); !sameLives(got, want) {
		t.Fatalf("Merge(%v.., %v.., %d): %v.., %d of them, not %v.., %d of them", short(a), short(b), low, short(got), len(got), short(want), len(want))
	}
}

// mergesAsMeant fails if Merge answers otherwise than the chapter's words, and tells how many stay.
func mergesAsMeant(t *testing.T, a, b []api.Live, low int) int {
	t.Helper()
	want := mergedOf(a, b, low)
	merges(t, a, b, low, want...)
	return len(want)
}

// hasVectors fails if Vectors does not answer these.
func hasVectors(t *testing.T, l []api.Live, rows []api.Row, born []api.Run, marks []api.Mark) {
	t.Helper()
	gotRows, gotBorn, gotMarks := Vectors(l)
	if !sameRows(gotRows, rows) {
		t.Fatalf("Vectors(%v..): rows %v.., %d of them, not %v.., %d of them", short(l), short(gotRows), len(gotRows), short(rows), len(rows))
	}
	if !slices.Equal(gotBorn, born) {
		t.Fatalf("Vectors(%v..): births %v.., %d of them, not %v.., %d of them", short(l), short(gotBorn), len(gotBorn), short(born), len(born))
	}
	if !slices.Equal(gotMarks, marks) {
		t.Fatalf("Vectors(%v..): marks %v.., %d of them, not %v.., %d of them", short(l), short(gotMarks), len(gotMarks), short(marks), len(marks))
	}
}

// vectorsAsMeant fails if Vectors answers otherwise than the chapter's words.
func vectorsAsMeant(t *testing.T, l []api.Live) {
	t.Helper()
	rows, born, marks := vectorsOf(l)
	hasVectors(t, l, rows, born, marks)
}

// hasLives fails if Lives does not answer these.
func hasLives(t *testing.T, rows []api.Row, born []api.Run, marks []api.Mark, want ...api.Live) {
	t.Helper()
	if got, errno := Lives(rows, born, marks); !sameLives(got, want) || errno != api.OK {
		t.Fatalf("Lives(%v.., %v.., %v..): %v.., %d of them, %d, not %v.., %d of them", short(rows), short(born), short(marks), short(got), len(got), errno, short(want), len(want))
	}
}

// noLives fails if Lives does not answer ErrArg alone.
func noLives(t *testing.T, rows []api.Row, born []api.Run, marks []api.Mark) {
	t.Helper()
	if got, errno := Lives(rows, born, marks); len(got) != 0 || errno != api.ErrArg {
		t.Fatalf("Lives of %d rows, %v.., %v..: %v.., %d, not ErrArg alone", len(rows), short(born), short(marks), short(got), errno)
	}
}

// livesAsMeant fails if Lives answers otherwise than the chapter's words, and tells whether there are some.
func livesAsMeant(t *testing.T, rows []api.Row, born []api.Run, marks []api.Mark) bool {
	t.Helper()
	want, ok := livesOf(rows, born, marks)
	if ok {
		hasLives(t, rows, born, marks, want...)
	} else {
		noLives(t, rows, born, marks)
	}
	return ok
}

// projects fails if Project does not answer these rows.
func projects(t *testing.T, rows []api.Row, cols []int, want ...api.Row) {
	t.Helper()
	if got, errno := Project(rows, cols); !sameRows(got, want) || errno != api.OK {
		t.Fatalf("Project(%v.., %d..): %v.., %d of them, %d, not %v.., %d of them", short(rows), short(cols), short(got), len(got), errno, short(want), len(want))
	}
}

// projectsNot fails if Project does not answer ErrArg alone.
func projectsNot(t *testing.T, rows []api.Row, cols []int) {
	t.Helper()
	if got, errno := Project(rows, cols); len(got) != 0 || errno != api.ErrArg {
		t.Fatalf("Project(%v.., %d..): %v.., %d, not ErrArg alone", short(rows), short(cols), short(got), errno)
	}
}

// projectsAsMeant fails if Project answers otherwise than the chapter's words, and tells whether the rows have the columns.
func projectsAsMeant(t *testing.T, rows []api.Row, cols []int) bool {
	t.Helper()
	want, ok := projectedOf(rows, cols)
	if ok {
		projects(t, rows, cols, want...)
	} else {
		projectsNot(t, rows, cols)
	}
	return ok
}

// kindsAre fails if Kinds does not answer these.
func kindsAre(t *testing.T, table api.Table, p api.Projection, want ...int) {
	t.Helper()
	if got, errno := Kinds(table, p); !slices.Equal(got, want) || errno != api.OK {
		t.Fatalf("Kinds(%v, %v): %d, %d, not %d", table, p, got, errno, want)
	}
}

// noKinds fails if Kinds does not answer ErrArg alone.
func noKinds(t *testing.T, table api.Table, p api.Projection) {
	t.Helper()
	if got, errno := Kinds(table, p); len(got) != 0 || errno != api.ErrArg {
		t.Fatalf("Kinds(%v, %v): %d, %d, not ErrArg alone", table, p, got, errno)
	}
}

// kindsAsMeant fails if Kinds answers otherwise than the chapter's words, and tells whether the table has the columns.
func kindsAsMeant(t *testing.T, table api.Table, p api.Projection) bool {
	t.Helper()
	want, ok := kindsOf(table, p.Cols)
	if ok {
		kindsAre(t, table, p, want...)
	} else {
		noKinds(t, table, p)
	}
	return ok
}
