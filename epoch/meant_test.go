package epoch

import (
	"math"
	"math/big"
	"peristyle/api"
	"peristyle/poslist"
	"peristyle/vint"
	"slices"
	"strings"
	"testing"
)

const (
	rows  = 1 << 12 // places that marks and births have
	top   = 1 << 40 // the last epoch
	least = math.MinInt
	great = math.MaxInt
)

// edges are numbers around what epochs may be, some of which are like one in fewer bits, or behind a step beyond an int.
var edges = []int{least, least + 1, least + 2, -top - 1, -top, -1 << 32, -2, -1, 0, 1, 2, 3, 1 << 31, 1 << 32, 1<<32 + 1, top - 1, top, top + 1, 2 * top, great - 1, great}

// noEpochs are those of them, and some more, that are none.
var noEpochs = []int{0, -1, -2, -top, least, least + 1, top + 1, top + 2, 2 * top, 1 << 62, great - 1, great}

// noPlaces are numbers at which no mark is.
var noPlaces = []int{-1, -2, -rows, -1 << 32, least, least + 1, rows, rows + 1, 2 * rows, 1 << 16, 1 << 32, 1<<32 + 1, great - 1, great}

// stirrer gives numbers by a fixed rule.
type stirrer struct{ word uint64 }

func stir(seed int) *stirrer { return &stirrer{uint64(seed)*2 + 1} }

func (s *stirrer) below(n int) int {
	s.word = s.word*6364136223846793005 + 1442695040888963407
	return int(s.word >> 33 % uint64(n))
}

// marks are some that may be, below a place, of epochs from 1 to one.
func (s *stirrer) marks(places, last int) []api.Mark {
	var l []api.Mark
	often := 1 + s.below(6)
	for at := range places {
		if s.below(often) == 0 {
			l = append(l, api.Mark{At: at, Gone: 1 + s.below(last)})
		}
	}
	return l
}

// births are runs that may be, of so many numbers, each of epochs from 1 to one.
func (s *stirrer) births(count, last int) []api.Run {
	numbers := make([]int, count)
	often := 1 + s.below(9)
	for k := range numbers {
		if k > 0 && s.below(often) > 0 {
			numbers[k] = numbers[k-1]
			continue
		}
		numbers[k] = 1 + s.below(last)
	}
	return birthsOf(numbers...)
}

// places are some below one, rising.
func (s *stirrer) places(below int) []int {
	var l []int
	often := 1 + s.below(9)
	for at := range below {
		if s.below(often) == 0 {
			l = append(l, at)
		}
	}
	return l
}

// The chapter's words.

// isClock tells whether a clock may be.
func isClock(c api.Clock) bool { return 1 <= c.Now && c.Now <= top && 1 <= c.Low && c.Low <= c.Now }

// isSeen tells whether a row is seen: it is not, if it came later, or went by then.
func isSeen(born, gone, e int) bool {
	if born > e {
		return false
	}
	went := gone != 0 && gone <= e
	return !went
}

// areMarks tells whether marks may be.
func areMarks(l []api.Mark) bool {
	for k, mark := range l {
		if mark.At < 0 || mark.At >= rows || mark.Gone < 1 || mark.Gone > top {
			return false
		}
		if k > 0 && l[k-1].At >= mark.At {
			return false
		}
	}
	return true
}

// areRuns tells whether runs may be, by great numbers, and are of not more than so many.
func areRuns(l []api.Run, most int64) bool {
	ahead := new(big.Int)
	for k, run := range l {
		if ahead.Cmp(big.NewInt(int64(run.First))) != 0 || run.Count < 1 || k > 0 && run.Val == l[k-1].Val {
			return false
		}
		ahead.Add(ahead, big.NewInt(int64(run.Count)))
	}
	return ahead.Cmp(big.NewInt(most)) <= 0
}

// birthsOf are the runs of numbers: those alike are cut off, again and again.
func birthsOf(numbers ...int) []api.Run {
	var l []api.Run
	for from := 0; from < len(numbers); {
		to := from + 1
		for to < len(numbers) && numbers[to] == numbers[from] {
			to++
		}
		l = append(l, api.Run{Val: numbers[from], First: from, Count: to - from})
		from = to
	}
	return l
}

// numbersOf are the numbers that runs have.
func numbersOf(l []api.Run) []int {
	var numbers []int
	for _, run := range l {
		numbers = append(numbers, slices.Repeat([]int{run.Val}, run.Count)...)
	}
	return numbers
}

// seenOf are the places that are seen; false, if births or marks may not be.
func seenOf(born []api.Run, marks []api.Mark, e int) ([]int, bool) {
	if !areRuns(born, rows) || !areMarks(marks) {
		return nil, false
	}
	numbers := numbersOf(born)
	gone := make([]int, len(numbers))
	for _, mark := range marks {
		if mark.At >= len(numbers) {
			return nil, false
		}
		gone[mark.At] = mark.Gone
	}
	var seen []int
	for at, number := range numbers {
		if isSeen(number, gone[at], e) {
			seen = append(seen, at)
		}
	}
	return seen, true
}

// deletedOf is what Delete answers of rising places.
func deletedOf(marks []api.Mark, places []int, e int) ([]api.Mark, api.Errno) {
	if !areMarks(marks) || e < 1 || e > top || len(places) > 0 && places[len(places)-1] >= rows {
		return nil, api.ErrArg
	}
	var gone [rows]int
	for _, mark := range marks {
		gone[mark.At] = mark.Gone
	}
	for _, at := range places {
		if gone[at] != 0 {
			return nil, api.ErrNone
		}
		gone[at] = e
	}
	return marksOf(gone[:]...), api.OK
}

// marksOf are the marks of places that are told by when their rows went; 0: they did not.
func marksOf(gone ...int) []api.Mark {
	var l []api.Mark
	for at, e := range gone {
		if e != 0 {
			l = append(l, api.Mark{At: at, Gone: e})
		}
	}
	return l
}

// bytesOf are the bytes of marks, whether they may be or not.
func bytesOf(l []api.Mark) string { return bytesAs(len(l), l) }

// bytesAs are the bytes of marks, told to be so many.
func bytesAs(count int, l []api.Mark) string {
	var s strings.Builder
	s.WriteString(vint.Put(count))
	ahead := -1
	for _, mark := range l {
		s.WriteString(vint.Put(mark.At - ahead))
		s.WriteString(vint.Put(mark.Gone))
		ahead = mark.At
	}
	return s.String()
}

// putAll are the bytes of numbers, one behind the other.
func putAll(numbers ...int) string {
	var s strings.Builder
	for _, number := range numbers {
		s.WriteString(vint.Put(number))
	}
	return s.String()
}

// marksIn are the marks that bytes begin with, and how many bytes they have, by great numbers; false, if there are none.
func marksIn(s string) ([]api.Mark, int, bool) {
	count, used, errno := vint.Take(s)
	if errno != api.OK || count < 0 {
		return nil, 0, false
	}
	var l []api.Mark
	at := big.NewInt(-1)
	for len(l) < count {
		step, first, errno := vint.Take(s[used:])
		if errno != api.OK {
			return nil, 0, false
		}
		gone, second, errno := vint.Take(s[used+first:])
		if errno != api.OK {
			return nil, 0, false
		}
		used += first + second
		at.Add(at, big.NewInt(int64(step)))
		if step < 1 || at.Cmp(big.NewInt(rows)) >= 0 || gone < 1 || gone > top {
			return nil, 0, false
		}
		l = append(l, api.Mark{At: int(at.Int64()), Gone: gone})
	}
	return l, used, true
}

// bestOf is the best form of places.
func bestOf(places []int) int {
	inSpans, inWords, inPlaces := 0, 0, 2*len(places)
	for k, at := range places {
		inWords = 8 * (at/64 + 1)
		if k == 0 || places[k-1] != at-1 {
			inSpans += 8
		}
	}
	switch {
	case inSpans <= inWords && inSpans <= inPlaces:
		return api.FormSpans
	case inWords <= inPlaces:
		return api.FormWords
	}
	return api.FormPlaces
}

// from are the places from one on, below another.
func from(lo, hi int) []int {
	var l []int
	for at := lo; at < hi; at++ {
		l = append(l, at)
	}
	return l
}

// every are so many places, from one on, so far from each other.
func every(first, step, count int) []int {
	var l []int
	for k := range count {
		l = append(l, first+k*step)
	}
	return l
}

// all are marks at all places, of epochs by their places.
func all() []api.Mark {
	l := make([]api.Mark, rows)
	for at := range l {
		l[at] = api.Mark{At: at, Gone: 1 + at*at%top}
	}
	return l
}

// wrongMarks are marks that may not be: each fault in the first one, in one of the midst, in the last one, and alone.
func wrongMarks() [][]api.Mark {
	var lists [][]api.Mark
	put := func(l ...api.Mark) { lists = append(lists, l) }
	for _, gone := range noEpochs {
		put(api.Mark{At: 0, Gone: gone})
		put(api.Mark{At: rows - 1, Gone: gone})
		put(api.Mark{At: 0, Gone: gone}, api.Mark{At: 2, Gone: 1}, api.Mark{At: 4, Gone: 1})
		put(api.Mark{At: 0, Gone: 1}, api.Mark{At: 2, Gone: gone}, api.Mark{At: 4, Gone: 1})
		put(api.Mark{At: 0, Gone: 1}, api.Mark{At: 2, Gone: 1}, api.Mark{At: 4, Gone: gone})
	}
	for _, at := range noPlaces {
		put(api.Mark{At: at, Gone: 1})
		put(api.Mark{At: at, Gone: 1}, api.Mark{At: 2, Gone: 1}, api.Mark{At: 4, Gone: 1})
		put(api.Mark{At: 0, Gone: 1}, api.Mark{At: at, Gone: 1}, api.Mark{At: 4, Gone: 1})
		put(api.Mark{At: 0, Gone: 1}, api.Mark{At: 2, Gone: 1}, api.Mark{At: at, Gone: 1})
		put(api.Mark{At: at, Gone: 1}, api.Mark{At: at + 1, Gone: 1})
		put(api.Mark{At: at - 1, Gone: 1}, api.Mark{At: at, Gone: 1})
	}
	for _, ats := range [][]int{{0, 0}, {3, 3}, {rows - 1, rows - 1}, {1, 0}, {4, 3}, {rows - 1, 0}, {rows - 1, rows - 2}, {0, 0, 1}, {0, 1, 1}, {0, 2, 2, 4}, {2, 1, 4}, {0, 4, 2}, {0, 4, 2, 5}, {0, 1, 2, 0}, {3, 4, 5, 4}, {4, 3, 2, 1, 0}} {
		var l []api.Mark
		for _, at := range ats {
			l = append(l, api.Mark{At: at, Gone: 5})
		}
		put(l...)
	}
	// The last fault of many, and more marks than there are places.
	for _, last := range []api.Mark{{At: rows - 2, Gone: 1}, {At: rows - 1}, {At: rows - 1, Gone: top + 1}, {At: rows, Gone: 1}} {
		l := all()
		l[rows-1] = last
		put(l...)
	}
	put(append(all(), api.Mark{At: rows, Gone: 1})...)
	put(append(all(), api.Mark{At: rows - 1, Gone: 1})...)
	return lists
}

// wrongBirths are runs that may not be, or of more than so many numbers.
func wrongBirths() [][]api.Run {
	return [][]api.Run{
		{{}}, {{Val: 1}}, {{Val: 1, Count: -1}}, {{Val: 1, Count: least}}, {{Val: 1, Count: great}}, {{Val: 1, Count: rows + 1}}, {{Val: 1, Count: 1 << 16}}, {{Val: 1, Count: 1<<16 + 1}}, {{Val: 1, Count: 1 << 32}}, {{Val: 1, Count: 1<<32 + 1}},
		{{Val: 1, First: 1, Count: 1}}, {{Val: 1, First: -1, Count: 1}}, {{Val: 1, First: -1, Count: 2}}, {{Val: 1, First: least, Count: 1}}, {{Val: 1, First: great, Count: 1}},
		{{Val: 1, Count: 1}, {Val: 2, Count: 1}}, {{Val: 1, Count: 2}, {Val: 2, First: 1, Count: 1}}, {{Val: 1, Count: 2}, {Val: 2, First: 3, Count: 1}}, {{Val: 1, Count: 2}, {Val: 2, First: least, Count: 1}},
		{{Val: 1, Count: 2}, {Val: 2, First: 2}}, {{Val: 1, Count: 2}, {Val: 2, First: 2, Count: -1}}, {{Val: 1, Count: 2}, {Val: 2, First: 2}, {Val: 3, First: 2, Count: 1}},
		{{Val: 1, Count: 2}, {Val: 1, First: 2, Count: 1}}, {{Val: 2, Count: 2}, {Val: 1, First: 2, Count: 1}, {Val: 1, First: 3, Count: 1}}, {{Val: 0, Count: 1}, {Val: 0, First: 1, Count: 1}}, {{Val: 1, Count: 1}, {Val: 1, First: 1, Count: 1}, {Val: 2, First: 2, Count: 1}},
		{{Val: 1, Count: rows}, {Val: 2, First: rows, Count: 1}}, {{Val: 1, Count: 1}, {Val: 2, First: 1, Count: rows}}, {{Val: 1, Count: rows - 1}, {Val: 2, First: rows - 1, Count: 2}},
		{{Val: 1, Count: 1 << 15}, {Val: 2, First: 1 << 15, Count: 1 << 15}}, {{Val: 1, Count: 1 << 16}, {Val: 2, First: 1 << 16, Count: 1}},
		{{Val: 1, Count: great}, {Val: 2, First: great, Count: 1}}, {{Val: 1, Count: great}, {Val: 2, First: great, Count: great}, {Val: 1, First: -2, Count: 3}}, {{Val: 1, Count: 1}, {Val: 2, First: 1, Count: great}},
		{{Val: 1, Count: 1 << 62}, {Val: 2, First: 1 << 62, Count: 1 << 62}, {Val: 1, First: least, Count: 1 << 62}, {Val: 2, First: -1 << 62, Count: 1 << 62}, {Val: 1, Count: 1}},
		birthsOf(from(0, rows+1)...), append(birthsOf(from(0, rows-1)...), api.Run{Val: 0, First: rows - 1}),
	}
}

// What fails a test.

// short is a list as it is told: its beginning alone.
func short[T any](l []T) []T { return l[:min(len(l), 12)] }

// listOf is the list of places, in a form.
func listOf(t *testing.T, places []int, form int) poslist.List {
	t.Helper()
	l, errno := poslist.From(places)
	if errno == api.OK {
		l, errno = l.As(form)
	}
	if errno != api.OK {
		t.Fatalf("no list of %d..: %d", short(places), errno)
	}
	return l
}

// isList fails if a list is not of these places, in their best form.
func isList(t *testing.T, what string, l poslist.List, places []int) {
	t.Helper()
	if got := slices.Collect(l.Places()); !slices.Equal(got, places) || l.Form() != bestOf(places) || l.Count() != len(places) {
		t.Errorf("%s: %d.., %d in form %d, not %d.., %d in form %d", what, short(got), len(got), l.Form(), short(places), len(places), bestOf(places))
	}
}

// visible fails if Visible does not answer these places, in their best form.
func visible(t *testing.T, born []api.Run, marks []api.Mark, e int, want []int) {
	t.Helper()
	got, errno := Visible(born, marks, e)
	if errno != api.OK {
		t.Errorf("Visible(%d.., %d.., %d): %d", short(born), short(marks), e, errno)
	}
	isList(t, "Visible", got, want)
	if t.Failed() {
		t.Fatalf("so of Visible(%d.., %d.., %d)", short(born), short(marks), e)
	}
}

// notVisible fails if Visible does not answer ErrArg, and no places in FormSpans.
func notVisible(t *testing.T, born []api.Run, marks []api.Mark, e int) {
	t.Helper()
	got, errno := Visible(born, marks, e)
	if errno != api.ErrArg || got.Count() != 0 || got.Form() != api.FormSpans {
		t.Errorf("Visible(%d.., %d.., %d): %d places in form %d, %d, not ErrArg alone", short(born), short(marks), e, got.Count(), got.Form(), errno)
	}
}

// visibleAsMeant fails if Visible answers otherwise than the chapter's words, and tells whether there are places to answer.
func visibleAsMeant(t *testing.T, born []api.Run, marks []api.Mark, e int) bool {
	t.Helper()
	want, ok := seenOf(born, marks, e)
	if ok {
		visible(t, born, marks, e, want)
	} else {
		notVisible(t, born, marks, e)
	}
	return ok
}

// deletes fails if Delete of places, in each form, does not answer these marks, or that error and none.
func deletes(t *testing.T, marks []api.Mark, places []int, e int, want []api.Mark, wantErrno api.Errno) {
	t.Helper()
	for _, form := range []int{api.FormSpans, api.FormWords, api.FormPlaces} {
		got, errno := Delete(marks, listOf(t, places, form), e)
		if !slices.Equal(got, want) || errno != wantErrno {
			t.Fatalf("Delete(%d.., %d.. in form %d, %d): %d.., %d of them, %d, not %d.., %d of them, %d", short(marks), short(places), form, e, short(got), len(got), errno, short(want), len(want), wantErrno)
		}
	}
}

// deletesAsMeant fails if Delete answers otherwise than the chapter's words, and tells which error it must.
func deletesAsMeant(t *testing.T, marks []api.Mark, places []int, e int) api.Errno {
	t.Helper()
	want, errno := deletedOf(marks, places, e)
	deletes(t, marks, places, e, want, errno)
	return errno
}

// goneIs fails if Gone does not answer that.
func goneIs(t *testing.T, marks []api.Mark, at, want int) {
	t.Helper()
	if got := Gone(marks, at); got != want {
		t.Errorf("Gone(%d.., %d): %d, not %d", short(marks), at, got, want)
	}
}

// puts fails if Put does not answer these bytes.
func puts(t *testing.T, marks []api.Mark, want string) {
	t.Helper()
	if got, errno := Put(marks); got != want || errno != api.OK {
		t.Errorf("Put(%d..): %x.., %d, not %x..", short(marks), short([]byte(got)), errno, short([]byte(want)))
	}
}

// takes fails if Take does not answer these marks, and so many bytes.
func takes(t *testing.T, s string, want []api.Mark, wantUsed int) {
	t.Helper()
	if got, used, errno := Take(s); !slices.Equal(got, want) || used != wantUsed || errno != api.OK {
		t.Errorf("Take of %d bytes, %x..: %d.., %d, %d, not %d.., %d", len(s), short([]byte(s)), short(got), used, errno, short(want), wantUsed)
	}
}

// takesNone fails if Take does not answer ErrForm, and nothing beside.
func takesNone(t *testing.T, s string) {
	t.Helper()
	if got, used, errno := Take(s); len(got) != 0 || used != 0 || errno != api.ErrForm {
		t.Errorf("Take of %d bytes, %x..: %d.., %d, %d, not ErrForm alone", len(s), short([]byte(s)), short(got), used, errno)
	}
}

// takesAsMeant fails if Take answers otherwise than the chapter's words, and tells whether there are marks.
func takesAsMeant(t *testing.T, s string) bool {
	t.Helper()
	l, used, ok := marksIn(s)
	if ok {
		takes(t, s, l, used)
	} else {
		takesNone(t, s)
	}
	return ok
}
