package jindex

import (
	"fmt"
	"math"
	"peristyle/api"
	"peristyle/poslist"
	"slices"
	"strconv"
	"testing"
)

const (
	rows     = 1 << 12   // places that an order may have
	top      = 1 << 40   // the last epoch
	last     = 1<<16 - 1 // the greatest place of a list
	numbers  = 1 << 16   // that runs may have
	least    = math.MinInt
	great    = math.MaxInt
	sentinel = -77 // what lies in the room behind a list's end
)

// sizes are those of orders that may be.
var sizes = []int{0, 1, 2, 3, 4, 5, 8, 9, 16, 17, 255, 256, 257, rows - 1, rows}

// forms are those of lists.
var forms = []int{api.FormSpans, api.FormWords, api.FormPlaces}

// noSizes are numbers of which there may be no order.
var noSizes = []int{least, least + 1, -1 << 32, -rows, -2, -1, rows + 1, rows + 2, 1 << 16, 1 << 32, 1<<32 + 1, great - 1, great}

// noEpochs are numbers in which no row went.
var noEpochs = []int{0, -1, -2, -top, least, least + 1, top + 1, top + 2, 2 * top, 1 << 62, great - 1, great}

// stirrer gives numbers by a fixed rule.
type stirrer struct{ word uint64 }

func stir(seed int) *stirrer { return &stirrer{uint64(seed)*2 + 1} }

func (s *stirrer) below(n int) int {
	s.word = s.word*6364136223846793005 + 1442695040888963407
	return int(s.word >> 33 % uint64(n))
}

// order is any order of so many places.
func (s *stirrer) order(places int) []int {
	l := from(0, places)
	for k := range l {
		n := k + s.below(places-k)
		l[k], l[n] = l[n], l[k]
	}
	return l
}

// places are some below one, rising.
func (s *stirrer) places(below int) []int {
	var l []int
	often := 1 + s.below(9)
	for at := range below {
		if s.below(often) == 0 {
			l = append(l, at)
		}
	}
	return l
}

// marks are some that may be, at places below one.
func (s *stirrer) marks(below int) []api.Mark {
	var l []api.Mark
	for _, at := range s.places(below) {
		l = append(l, api.Mark{At: at, Gone: 1 + s.below(1<<(1+s.below(30)))})
	}
	return l
}

// vals are so many numbers, of few that are unlike.
func (s *stirrer) vals(count int) []int {
	l := make([]int, count)
	often := 1 + s.below(5)
	for k := range l {
		if k > 0 && s.below(often) > 0 {
			l[k] = l[k-1]
			continue
		}
		l[k] = s.below(4) - 1
	}
	return l
}

// from are the numbers from one on, below another.
func from(lo, hi int) []int {
	l := []int{}
	for k := lo; k < hi; k++ {
		l = append(l, k)
	}
	return l
}

// falling is the order that falls.
func falling(places int) []int {
	l := from(0, places)
	slices.Reverse(l)
	return l
}

// ordersOf are orders of so many places: rising, falling, turned round by one, with two that changed their places, and any.
func ordersOf(places int) [][]int {
	l := [][]int{from(0, places), falling(places)}
	if places > 1 {
		swapped := from(0, places)
		swapped[0], swapped[places-1] = places-1, 0
		l = append(l, append(from(1, places), 0), append([]int{places - 1}, from(0, places-1)...), swapped)
	}
	s := stir(places)
	return append(l, s.order(places), s.order(places), s.order(places))
}

// all are all orders of so many places: the last one put at each place among the others.
func all(places int) [][]int {
	if places == 0 {
		return [][]int{{}}
	}
	var l [][]int
	for _, others := range all(places - 1) {
		for at := range places {
			l = append(l, slices.Insert(slices.Clone(others), at, places-1))
		}
	}
	return l
}

// few are all orders of up to so many places.
func few(most int) [][]int {
	var l [][]int
	for places := range most + 1 {
		l = append(l, all(places)...)
	}
	return l
}

// wrong is a list that is no order, and what it is.
type wrong struct {
	what string
	l    []int
}

// wrongs are lists that are no orders: of more places than may be, and those of each size with one number that may not stand there, at the first, a middle and the last place.
func wrongs() []wrong {
	var made []wrong
	for _, count := range []int{rows + 1, rows + 2, 2 * rows, numbers, numbers + 1} {
		made = append(made, wrong{"rising, too long", from(0, count)}, wrong{"falling, too long", falling(count)}, wrong{"noughts, too long", make([]int, count)}, wrong{"0 to 4095 and more, too long", append(from(0, rows), make([]int, count-rows)...)})
	}
	for _, places := range sizes[1:] {
		for _, order := range [][]int{from(0, places), falling(places), stir(places).order(places)} {
			for _, at := range []int{0, places / 2, places - 1} {
				own := order[at]
				for _, number := range []int{least, least + 1, -1 << 32, -places - 1, -places, -2, -1, own - 1<<62, own - 1<<32, own - 1<<16, own - 1<<8, ^own, own + 1<<8, own + 1<<12, own + 1<<16, own + 1<<32, own + 1<<62, own + least, places, places + 1, rows, great - 1, great} {
					made = append(made, wrong{fmt.Sprintf("%d at %d of %d", number, at, places), with(order, at, number)})
				}
				for _, other := range []int{0, places / 2, places - 1} {
					if other != at {
						made = append(made, wrong{fmt.Sprintf("at %d what is at %d, too, of %d", at, other, places), with(order, at, order[other])})
					}
				}
			}
		}
	}
	for _, places := range []int{2, 3, 8, 256, rows} {
		made = append(made, wrong{"noughts", make([]int, places)}, wrong{"from 1 on", from(1, places+1)}, wrong{"from -1 on", from(-1, places-1)}, wrong{"the last one alone", slices.Repeat([]int{places - 1}, places)})
	}
	return made
}

// fewWrongs are some of these, for where each is beside many others.
func fewWrongs() [][]int {
	return [][]int{{1}, {-1}, {least}, {great}, {0, 0}, {1, 1}, {0, 2}, {2, 1}, {-1, 0}, {1, 2, 0, 1}, {0, 1, 2, 4}, {0, 1, 2, 1 << 32}, {3, 2, 1, -1}, make([]int, 8), from(1, 10), with(from(0, 256), 255, 511), with(from(0, rows), 0, rows), with(from(0, rows), rows-1, 0), from(0, rows+1), falling(rows + 1)}
}

// with is a list with another number at a place.
func with(l []int, at, number int) []int {
	made := slices.Clone(l)
	made[at] = number
	return made
}

// The chapter's words.

// isOrder tells whether numbers are each of 0 to n - 1 once: in order they are these.
func isOrder(l []int) bool {
	return len(l) <= rows && slices.Equal(slices.Sorted(slices.Values(l)), from(0, len(l)))
}

// placesOf are the places of the numbers of an order, by the numbers.
func placesOf(l []int) map[int]int {
	places := map[int]int{}
	for place, number := range l {
		places[number] = place
	}
	return places
}

// turnedOf is the order that leads back.
func turnedOf(l []int) []int {
	places, made := placesOf(l), []int{}
	for r := range l {
		made = append(made, places[r])
	}
	return made
}

// betweenOf leads from the places of a to those of b.
func betweenOf(a, b []int) []int {
	places, made := placesOf(b), []int{}
	for _, number := range a {
		made = append(made, places[number])
	}
	return made
}

// followedOf are the numbers at some places, rising.
func followedOf(l, places []int) []int {
	made := []int{}
	for _, place := range places {
		made = append(made, l[place])
	}
	slices.Sort(made)
	return made
}

// areMarks tells whether marks may be, and are of so many places.
func areMarks(l []api.Mark, places int) bool {
	for k, mark := range l {
		if mark.At < 0 || mark.At >= rows || mark.At >= places || mark.Gone < 1 || mark.Gone > top {
			return false
		}
		if k > 0 && l[k-1].At >= mark.At {
			return false
		}
	}
	return true
}

// marksOf are the marks where their places lead: looked for number by number, so they rise.
func marksOf(l []int, marks []api.Mark) []api.Mark {
	gone, made := map[int]int{}, []api.Mark{}
	for _, mark := range marks {
		gone[mark.At] = mark.Gone
	}
	places := placesOf(l)
	for r := range l {
		if e, has := gone[places[r]]; has {
			made = append(made, api.Mark{At: r, Gone: e})
		}
	}
	return made
}

// areRuns tells whether runs may be, and are of so many numbers.
func areRuns(l []api.Run, count int) bool {
	ahead := 0
	for k, run := range l {
		if run.First != ahead || run.Count < 1 || run.Count > numbers || k > 0 && run.Val == l[k-1].Val {
			return false
		}
		ahead += run.Count
		if ahead > numbers {
			return false
		}
	}
	return ahead == count
}

// runsOf are the runs of numbers: those alike are cut off, again and again.
func runsOf(vals ...int) []api.Run {
	l := []api.Run{}
	for from := 0; from < len(vals); {
		to := from + 1
		for to < len(vals) && vals[to] == vals[from] {
			to++
		}
		l = append(l, api.Run{Val: vals[from], First: from, Count: to - from})
		from = to
	}
	return l
}

// valsOf are the numbers that runs have.
func valsOf(l []api.Run) []int {
	vals := []int{}
	for _, run := range l {
		vals = append(vals, slices.Repeat([]int{run.Val}, run.Count)...)
	}
	return vals
}

// birthsOf are the births where their places lead: asked number by number.
func birthsOf(l []int, born []api.Run) []api.Run {
	places, vals, made := placesOf(l), valsOf(born), []int{}
	for r := range l {
		made = append(made, vals[places[r]])
	}
	return runsOf(made...)
}

// widthIn is how many bits the greatest number needs of an order of so many places; 0 needs none.
func widthIn(places int) int {
	if places <= 1 {
		return 0
	}
	return len(strconv.FormatInt(int64(places-1), 2))
}

// bytesAs are numbers as layer 8's chapter packs them: bit by bit, of each the lowest first.
func bytesAs(l []int, width int) string {
	s := make([]byte, (len(l)*width+7)/8)
	for k, number := range l {
		for bit := range width {
			if number>>bit&1 == 1 {
				s[(k*width+bit)/8] |= 1 << ((k*width + bit) % 8)
			}
		}
	}
	return string(s)
}

// bytesOf are an order's bytes.
func bytesOf(l []int) string { return bytesAs(l, widthIn(len(l))) }

// orderIn is the order of so many places that bytes begin with, and how many bytes it has: the numbers whose bits these are, if they are put as these bytes and are an order; false, if there is none.
func orderIn(s string, places int) ([]int, int, bool) {
	width := widthIn(places)
	used := (places*width + 7) / 8
	if used > len(s) {
		return nil, 0, false
	}
	l := make([]int, places)
	for k := range l {
		for bit := range width {
			l[k] |= int(s[(k*width+bit)/8]>>((k*width+bit)%8)&1) << bit
		}
	}
	return l, used, bytesAs(l, width) == s[:used] && isOrder(l)
}

// bestOf is the best form of places.
func bestOf(places []int) int {
	inSpans, inWords, inPlaces := 0, 0, 2*len(places)
	for k, place := range places {
		inWords = 8 * (place/64 + 1)
		if k == 0 || places[k-1] != place-1 {
			inSpans += 8
		}
	}
	switch {
	case inSpans <= inWords && inSpans <= inPlaces:
		return api.FormSpans
	case inWords <= inPlaces:
		return api.FormWords
	}
	return api.FormPlaces
}

// wrongMarks are marks that may not be, whatever the order is: each fault in the first one, in one of the midst, in the last one, and alone.
func wrongMarks() [][]api.Mark {
	var lists [][]api.Mark
	put := func(l ...api.Mark) { lists = append(lists, l) }
	for _, gone := range noEpochs {
		put(api.Mark{At: 0, Gone: gone})
		put(api.Mark{At: 0, Gone: gone}, api.Mark{At: 2, Gone: 1}, api.Mark{At: 4, Gone: 1})
		put(api.Mark{At: 0, Gone: 1}, api.Mark{At: 2, Gone: gone}, api.Mark{At: 4, Gone: 1})
		put(api.Mark{At: 0, Gone: 1}, api.Mark{At: 2, Gone: 1}, api.Mark{At: 4, Gone: gone})
	}
	for _, at := range []int{least, least + 1, -1 << 32, -rows, -2, -1, rows, rows + 1, 2 * rows, 1 << 16, 1 << 32, 1<<32 + 1, great - 1, great} {
		put(api.Mark{At: at, Gone: 1})
		put(api.Mark{At: at, Gone: 1}, api.Mark{At: 2, Gone: 1}, api.Mark{At: 4, Gone: 1})
		put(api.Mark{At: 0, Gone: 1}, api.Mark{At: at, Gone: 1}, api.Mark{At: 4, Gone: 1})
		put(api.Mark{At: 0, Gone: 1}, api.Mark{At: 2, Gone: 1}, api.Mark{At: at, Gone: 1})
	}
	for _, ats := range [][]int{{0, 0}, {3, 3}, {1, 0}, {4, 3}, {0, 0, 1}, {0, 1, 1}, {0, 2, 2, 4}, {2, 1, 4}, {0, 4, 2}, {0, 4, 2, 5}, {0, 1, 2, 0}, {3, 4, 5, 4}, {4, 3, 2, 1, 0}} {
		var l []api.Mark
		for _, at := range ats {
			l = append(l, api.Mark{At: at, Gone: 5})
		}
		put(l...)
	}
	return lists
}

// wrongRuns are runs that may not be, of so many numbers (at least 4): some by their own, some by how many they would have.
func wrongRuns(count int) [][]api.Run {
	return [][]api.Run{
		{{}}, {{Val: 1}}, {{Val: 1, Count: -1}}, {{Val: 1, Count: -count}}, {{Val: 1, Count: least}}, {{Val: 1, Count: great}}, {{Val: 1, Count: numbers + 1}}, {{Val: 1, Count: count + 1<<32}},
		{{Val: 1, First: 1, Count: count}}, {{Val: 1, First: 1, Count: count - 1}}, {{Val: 1, First: -1, Count: count}}, {{Val: 1, First: -1, Count: count + 1}}, {{Val: 1, First: least, Count: count}}, {{Val: 1, First: great, Count: count}},
		{{Val: 1, Count: 1}, {Val: 2, Count: count - 1}}, {{Val: 1, Count: 2}, {Val: 2, First: 1, Count: count - 2}}, {{Val: 1, Count: 2}, {Val: 2, First: 3, Count: count - 2}}, {{Val: 1, Count: 2}, {Val: 2, First: 3, Count: count - 3}}, {{Val: 1, Count: 1}, {Val: 2, First: least, Count: count - 1}}, {{Val: 1, Count: count - 1}, {Val: 2, First: great, Count: 1}},
		{{Val: 1, Count: count}, {Val: 2, First: count}}, {{Val: 1}, {Val: 2, Count: count}}, {{Val: 1, Count: 2}, {Val: 2, First: 2}, {Val: 3, First: 2, Count: count - 2}},
		{{Val: 1, Count: count + 1}, {Val: 2, First: count + 1, Count: -1}}, {{Val: 1, Count: -1}, {Val: 2, First: -1, Count: count + 1}},
		{{Val: 1, Count: 2}, {Val: 1, First: 2, Count: count - 2}}, {{Val: 2, Count: 2}, {Val: 1, First: 2, Count: 1}, {Val: 1, First: 3, Count: count - 3}}, {{Val: 0, Count: 1}, {Val: 0, First: 1, Count: count - 1}}, {{Val: 1, Count: 1}, {Val: 1, First: 1, Count: 1}, {Val: 2, First: 2, Count: count - 2}},
		{{Val: 1, Count: count}, {Val: 2, First: count, Count: numbers - count + 1}}, {{Val: 1, Count: count}, {Val: 2, First: count, Count: great}},
		{{Val: 1, Count: great}, {Val: 2, First: great, Count: great}, {Val: 1, First: -2, Count: count + 2}}, {{Val: 1, Count: 1 << 62}, {Val: 2, First: 1 << 62, Count: 1 << 62}, {Val: 1, First: least, Count: 1 << 62}, {Val: 2, First: -1 << 62, Count: 1 << 62}, {Val: 1, Count: count}},
	}
}

// What fails a test.

// short is a list as it is told: its beginning alone.
func short[T any](l []T) []T { return l[:min(len(l), 12)] }

// roomy is a list with room behind its end, in which that stands.
func roomy[T any](l []T, behind T) []T {
	made := append(slices.Clone(l), behind, behind, behind)
	return made[:len(l)]
}

// orderIs fails if what is answered is not that order.
func orderIs(t *testing.T, what string, got []int, errno api.Errno, want []int) {
	t.Helper()
	if !slices.Equal(got, want) || errno != api.OK {
		t.Fatalf("%s: %d.., %d of them, %d, not %d.., %d of them", what, short(got), len(got), errno, short(want), len(want))
	}
}

// noOrder fails if what is answered is not ErrArg alone.
func noOrder(t *testing.T, what string, got []int, errno api.Errno) {
	t.Helper()
	if len(got) != 0 || errno != api.ErrArg {
		t.Errorf("%s: %d.., %d, not ErrArg alone", what, short(got), errno)
	}
}

// listOf is the list of places, in a form.
func listOf(t *testing.T, places []int, form int) poslist.List {
	t.Helper()
	l, errno := poslist.From(places)
	if errno == api.OK {
		l, errno = l.As(form)
	}
	if errno != api.OK {
		t.Fatalf("no list of %d..: %d", short(places), errno)
	}
	return l
}

// isList fails if a list is not of these places, in their best form.
func isList(t *testing.T, what string, l poslist.List, places []int) {
	t.Helper()
	if got := slices.Collect(l.Places()); !slices.Equal(got, places) || l.Form() != bestOf(places) {
		t.Fatalf("%s: %d.., %d in form %d, not %d.., %d in form %d", what, short(got), len(got), l.Form(), short(places), len(places), bestOf(places))
	}
}

// follows fails if Follow of a list in each form does not answer the numbers at these places, and leave the list as it was.
func follows(t *testing.T, l, places []int) {
	t.Helper()
	for _, form := range forms {
		list := listOf(t, places, form)
		got, errno := Follow(l, list)
		what := fmt.Sprintf("Follow(%d.., %d.. in form %d)", short(l), short(places), form)
		if errno != api.OK {
			t.Fatalf("%s: %d", what, errno)
		}
		isList(t, what, got, followedOf(l, places))
		if list.Form() != form || !slices.Equal(slices.Collect(list.Places()), places) {
			t.Fatalf("%s changed the list", what)
		}
	}
}

// followsNot fails if Follow of a list in each form does not answer that error alone.
func followsNot(t *testing.T, l, places []int, want api.Errno) {
	t.Helper()
	for _, form := range forms {
		got, errno := Follow(l, listOf(t, places, form))
		if got.Count() != 0 || got.Form() != api.FormSpans || errno != want {
			t.Errorf("Follow(%d.., %d.. in form %d): %d places in form %d, %d, not %d alone", short(l), short(places), form, got.Count(), got.Form(), errno, want)
		}
	}
}

// marksAsMeant fails if Marks answers otherwise than the chapter's words.
func marksAsMeant(t *testing.T, l []int, marks []api.Mark) {
	t.Helper()
	got, errno := Marks(l, marks)
	if !isOrder(l) || !areMarks(marks, len(l)) {
		if len(got) != 0 || errno != api.ErrArg {
			t.Errorf("Marks(%d.., %d..): %d.., %d, not ErrArg alone", short(l), short(marks), short(got), errno)
		}
		return
	}
	if want := marksOf(l, marks); !slices.Equal(got, want) || errno != api.OK {
		t.Fatalf("Marks(%d.., %d..): %d.., %d of them, %d, not %d.., %d of them", short(l), short(marks), short(got), len(got), errno, short(want), len(want))
	}
}

// birthsAsMeant fails if Births answers otherwise than the chapter's words.
func birthsAsMeant(t *testing.T, l []int, born []api.Run) {
	t.Helper()
	got, errno := Births(l, born)
	if !isOrder(l) || !areRuns(born, len(l)) {
		if len(got) != 0 || errno != api.ErrArg {
			t.Errorf("Births(%d.., %d..): %d.., %d, not ErrArg alone", short(l), short(born), short(got), errno)
		}
		return
	}
	want := birthsOf(l, born)
	if !slices.Equal(got, want) || errno != api.OK || !areRuns(got, len(l)) {
		t.Fatalf("Births(%d.., %d..): %d.., %d of them, %d, not %d.., %d of them", short(l), short(born), short(got), len(got), errno, short(want), len(want))
	}
}

// takes fails if Take does not answer that order, and so many bytes.
func takes(t *testing.T, s string, want []int, wantUsed int) {
	t.Helper()
	if got, used, errno := Take(s, len(want)); !slices.Equal(got, want) || used != wantUsed || errno != api.OK {
		t.Fatalf("Take(%x.., %d) of %d bytes: %d.., %d, %d, not %d.., %d", short([]byte(s)), len(want), len(s), short(got), used, errno, short(want), wantUsed)
	}
}

// takesNone fails if Take does not answer that error, and nothing beside.
func takesNone(t *testing.T, s string, n int, want api.Errno) {
	t.Helper()
	if got, used, errno := Take(s, n); len(got) != 0 || used != 0 || errno != want {
		t.Errorf("Take(%x.., %d) of %d bytes: %d.., %d, %d, not %d alone", short([]byte(s)), n, len(s), short(got), used, errno, want)
	}
}

// takesAsMeant fails if Take answers otherwise than the chapter's words, and tells whether there is an order.
func takesAsMeant(t *testing.T, s string, n int) bool {
	t.Helper()
	l, used, ok := orderIn(s, n)
	if ok {
		takes(t, s, l, used)
	} else {
		takesNone(t, s, n, api.ErrForm)
	}
	return ok
}
