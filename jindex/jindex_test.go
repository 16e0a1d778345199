package jindex

import (
	"fmt"
	"peristyle/api"
	"peristyle/poslist"
	"slices"
	"strings"
	"testing"
)

// 2, 0, 1: turned 1, 2, 0.
func TestExample(t *testing.T) {
	got, errno := Turned([]int{2, 0, 1})
	orderIs(t, "Turned(2, 0, 1)", got, errno, []int{1, 2, 0})
}

// Ji1: Check

func TestCheckOfOrders(t *testing.T) {
	if errno := Check(nil); errno != api.OK {
		t.Errorf("Check(nil): %d", errno)
	}
	for _, places := range sizes {
		for _, l := range ordersOf(places) {
			if errno := Check(l); errno != api.OK || !isOrder(l) {
				t.Errorf("Check(%d..) of %d places: %d", short(l), places, errno)
			}
		}
	}
}

// What is no order is refused by each call, whatever stands beside it.
func TestWrongOrders(t *testing.T) {
	list := listOf(t, []int{0}, api.FormPlaces)
	for _, w := range wrongs() {
		if isOrder(w.l) {
			t.Fatalf("%s is an order", w.what)
		}
		if errno := Check(w.l); errno != api.ErrArg {
			t.Errorf("Check, %s: %d", w.what, errno)
		}
		got, errno := Turned(w.l)
		noOrder(t, "Turned, "+w.what, got, errno)
		got, errno = Between(w.l, w.l)
		noOrder(t, "Between of both, "+w.what, got, errno)
		if right := from(0, len(w.l)); len(right) <= rows {
			got, errno = Between(w.l, right)
			noOrder(t, "Between, the first one "+w.what, got, errno)
			got, errno = Between(right, w.l)
			noOrder(t, "Between, the second one "+w.what, got, errno)
		}
		if l, errno := Follow(w.l, list); l.Count() != 0 || l.Form() != api.FormSpans || errno != api.ErrArg {
			t.Errorf("Follow, %s: %d places, %d", w.what, l.Count(), errno)
		}
		if l, errno := Marks(w.l, []api.Mark{{At: 0, Gone: 1}}); len(l) != 0 || errno != api.ErrArg {
			t.Errorf("Marks, %s: %d.., %d", w.what, short(l), errno)
		}
		if l, errno := Births(w.l, []api.Run{{Val: 1, Count: len(w.l)}}); len(l) != 0 || errno != api.ErrArg {
			t.Errorf("Births, %s: %d.., %d", w.what, short(l), errno)
		}
		if s, errno := Put(w.l); s != "" || errno != api.ErrArg {
			t.Errorf("Put, %s: %x.., %d", w.what, short([]byte(s)), errno)
		}
	}
}

// All short lists of the numbers around those that may stand there.
func TestCheckOfShortLists(t *testing.T) {
	lists, orders := [][]int{nil}, 0
	for first := 0; first < len(lists); first++ {
		l := lists[first]
		want := api.ErrArg
		if isOrder(l) {
			want = api.OK
			orders++
		}
		if errno := Check(l); errno != want {
			t.Errorf("Check(%d): %d, not %d", l, errno, want)
		}
		for number := -1; number <= 5 && len(l) < 5; number++ {
			lists = append(lists, append(slices.Clone(l), number))
		}
	}
	if orders != 1+1+2+6+24+120 {
		t.Errorf("%d orders", orders)
	}
}

// Lists of any length end.
func TestLongLists(t *testing.T) {
	const count = 1 << 20
	for _, l := range [][]int{from(0, count), make([]int, count)} {
		if errno := Check(l); errno != api.ErrArg {
			t.Errorf("Check(%d..): %d", short(l), errno)
		}
		got, errno := Between(l, l)
		noOrder(t, "Between", got, errno)
		if s, errno := Put(l); s != "" || errno != api.ErrArg {
			t.Errorf("Put(%d..): %x.., %d", short(l), short([]byte(s)), errno)
		}
		if l, errno := Marks(l, make([]api.Mark, count)); len(l) != 0 || errno != api.ErrArg {
			t.Errorf("Marks: %d.., %d", short(l), errno)
		}
		if l, errno := Births(l, make([]api.Run, count)); len(l) != 0 || errno != api.ErrArg {
			t.Errorf("Births: %d.., %d", short(l), errno)
		}
	}
}

// Ji1: Turned

func TestTurned(t *testing.T) {
	for _, l := range few(6) {
		got, errno := Turned(l)
		orderIs(t, fmt.Sprintf("Turned(%d)", l), got, errno, turnedOf(l))
	}
	for _, places := range sizes {
		for _, l := range ordersOf(places) {
			got, errno := Turned(l)
			orderIs(t, fmt.Sprintf("Turned(%d..) of %d places", short(l), places), got, errno, turnedOf(l))
		}
	}
	got, errno := Turned([]int{2, 0, 3, 1, 4})
	orderIs(t, "Turned(2, 0, 3, 1, 4)", got, errno, []int{1, 3, 0, 2, 4})
	got, errno = Turned([]int{1, 2, 3, 0})
	orderIs(t, "Turned(1, 2, 3, 0)", got, errno, []int{3, 0, 1, 2})
	got, errno = Turned(nil)
	orderIs(t, "Turned(nil)", got, errno, nil)
}

// Ji1: Between

func TestBetween(t *testing.T) {
	got, errno := Between([]int{2, 0, 1}, []int{1, 0, 2})
	orderIs(t, "Between(2 0 1, 1 0 2)", got, errno, []int{2, 1, 0})
	got, errno = Between([]int{1, 0, 2}, []int{2, 0, 1})
	orderIs(t, "Between(1 0 2, 2 0 1)", got, errno, []int{2, 1, 0})
	got, errno = Between([]int{1, 2, 0}, []int{0, 2, 1})
	orderIs(t, "Between(1 2 0, 0 2 1)", got, errno, []int{2, 1, 0})
	got, errno = Between([]int{1, 2, 0, 3}, []int{3, 1, 0, 2})
	orderIs(t, "Between(1 2 0 3, 3 1 0 2)", got, errno, []int{1, 3, 2, 0})
	got, errno = Between([]int{3, 1, 0, 2}, []int{1, 2, 0, 3})
	orderIs(t, "Between(3 1 0 2, 1 2 0 3)", got, errno, []int{3, 0, 2, 1})
	for places := range 6 {
		for _, a := range all(places) {
			for _, b := range all(places) {
				got, errno := Between(a, b)
				orderIs(t, fmt.Sprintf("Between(%d, %d)", a, b), got, errno, betweenOf(a, b))
			}
		}
	}
	for _, places := range sizes {
		orders := ordersOf(places)
		for _, a := range orders {
			for _, b := range orders {
				got, errno := Between(a, b)
				orderIs(t, fmt.Sprintf("Between(%d.., %d..) of %d places", short(a), short(b), places), got, errno, betweenOf(a, b))
			}
			// From an order to itself it leads nowhere else; from it to the rising one it is itself, and the other way round turned.
			rising := from(0, places)
			got, errno := Between(a, slices.Clone(a))
			orderIs(t, "Between of an order and itself", got, errno, rising)
			got, errno = Between(a, rising)
			orderIs(t, "Between of an order and the rising one", got, errno, a)
			got, errno = Between(rising, a)
			orderIs(t, "Between of the rising order and one", got, errno, turnedOf(a))
		}
	}
}

func TestBetweenOfUnlikeMany(t *testing.T) {
	for _, a := range sizes {
		for _, b := range sizes {
			if a == b {
				continue
			}
			for _, round := range []func(places int) []int{func(places int) []int { return from(0, places) }, falling, stir(2).order} {
				got, errno := Between(round(a), round(b))
				noOrder(t, fmt.Sprintf("Between of %d places and %d", a, b), got, errno)
			}
		}
	}
}

func TestBetweenOfNoPlaces(t *testing.T) {
	for _, a := range [][]int{nil, {}} {
		for _, b := range [][]int{nil, {}} {
			got, errno := Between(a, b)
			orderIs(t, "Between of no places", got, errno, nil)
		}
		for _, other := range [][]int{{0}, {1}, {0, 1}, {0, 0}, from(0, rows), from(0, rows+1)} {
			got, errno := Between(a, other)
			noOrder(t, "Between of no places and some", got, errno)
			got, errno = Between(other, a)
			noOrder(t, "Between of some places and none", got, errno)
		}
	}
}

// One is none, or both; of as many places, or not.
func TestBetweenOfWrongOrders(t *testing.T) {
	for _, w := range fewWrongs() {
		for _, places := range sizes {
			for _, right := range [][]int{from(0, places), stir(3).order(places)} {
				got, errno := Between(w, right)
				noOrder(t, fmt.Sprintf("Between(%d.., %d..)", short(w), short(right)), got, errno)
				got, errno = Between(right, w)
				noOrder(t, fmt.Sprintf("Between(%d.., %d..)", short(right), short(w)), got, errno)
			}
		}
		for _, other := range fewWrongs() {
			got, errno := Between(w, other)
			noOrder(t, fmt.Sprintf("Between(%d.., %d..)", short(w), short(other)), got, errno)
		}
	}
}

// Ji1: Follow

func TestFollow(t *testing.T) {
	l := []int{2, 0, 3, 1}
	follows(t, l, nil)
	follows(t, l, []int{0})
	follows(t, l, []int{3})
	follows(t, l, []int{0, 3})
	follows(t, l, []int{0, 1, 2, 3})
	got, errno := Follow(l, listOf(t, []int{0, 2}, api.FormWords))
	if errno != api.OK {
		t.Error(errno)
	}
	isList(t, "the numbers at 0 and 2", got, []int{2, 3})
}

// All lists of places of all small orders.
func TestFollowOfFewPlaces(t *testing.T) {
	for _, l := range few(5) {
		for set := range 1 << len(l) {
			var places []int
			for place := range l {
				if set>>place&1 == 1 {
					places = append(places, place)
				}
			}
			follows(t, l, places)
		}
	}
}

func TestFollowOfManyPlaces(t *testing.T) {
	s := stir(4)
	for _, places := range sizes[1:] {
		for _, l := range ordersOf(places) {
			follows(t, l, nil)
			follows(t, l, []int{0})
			follows(t, l, []int{places - 1})
			follows(t, l, []int{places / 2})
			follows(t, l, from(0, places))
			follows(t, l, from(places/3, places/2))
			follows(t, l, s.places(places))
			follows(t, l, s.places(places))
		}
	}
}

func TestFollowOfTheZeroList(t *testing.T) {
	for _, places := range sizes {
		for _, l := range ordersOf(places) {
			got, errno := Follow(l, poslist.List{})
			if got.Count() != 0 || got.Form() != api.FormSpans || errno != api.OK {
				t.Errorf("Follow(%d.., the zero List): %d places in form %d, %d", short(l), got.Count(), got.Form(), errno)
			}
		}
	}
	for _, w := range fewWrongs() {
		got, errno := Follow(w, poslist.List{})
		if got.Count() != 0 || got.Form() != api.FormSpans || errno != api.ErrArg {
			t.Errorf("Follow(%d.., the zero List): %d places in form %d, %d", short(w), got.Count(), got.Form(), errno)
		}
	}
}

func TestFollowOfNoPlaces(t *testing.T) {
	for _, l := range [][]int{nil, {}} {
		follows(t, l, nil)
		for _, places := range [][]int{{0}, {1}, {rows - 1}, {rows}, {last}, from(0, rows), from(0, last+1)} {
			followsNot(t, l, places, api.ErrNone)
		}
	}
}

// A place that is none of the order's, by itself, and beside others.
func TestFollowBeyond(t *testing.T) {
	for _, count := range sizes {
		for _, l := range ordersOf(count) {
			for _, beyond := range []int{count, count + 1, rows, last} {
				if beyond < count {
					continue
				}
				followsNot(t, l, []int{beyond}, api.ErrNone)
				followsNot(t, l, from(max(0, beyond-1), beyond+1), api.ErrNone)
				followsNot(t, l, append(from(0, count), beyond), api.ErrNone)
				if count > 0 {
					followsNot(t, l, []int{0, beyond}, api.ErrNone)
					followsNot(t, l, []int{count - 1, beyond}, api.ErrNone)
				}
			}
			followsNot(t, l, from(count, last+1), api.ErrNone)
			followsNot(t, l, from(0, last+1), api.ErrNone)
		}
	}
}

// No order is told first, whatever the places are.
func TestFollowOfWrongOrders(t *testing.T) {
	for _, w := range fewWrongs() {
		for _, places := range [][]int{nil, {0}, {len(w) - 1}, {len(w)}, {len(w) + 1}, {0, len(w)}, {rows}, {last}, from(0, rows), from(0, last+1)} {
			followsNot(t, w, places, api.ErrArg)
		}
	}
}

// The answer's form is the best one of its own places, whatever that of the list is.
func TestFollowForms(t *testing.T) {
	spread := make([]int, rows) // the rising places lead, in turn, to both halves
	for k := range spread {
		spread[k] = k/2 + k%2*rows/2
	}
	evens := make([]int, 0, rows) // the even places first
	for _, ahead := range []int{0, 1} {
		for k := ahead; k < rows; k += 2 {
			evens = append(evens, k)
		}
	}
	seen := map[int]int{}
	for _, c := range []struct {
		l, places []int
		form      int
	}{
		{[]int{2, 0, 1}, nil, api.FormSpans},
		{[]int{2, 0, 1}, []int{0, 1, 2}, api.FormPlaces},
		{falling(4), from(0, 4), api.FormSpans},
		{[]int{0, 2, 4, 6, 8, 1, 3, 5, 7, 9}, from(0, 5), api.FormWords},
		{[]int{0, 2, 4, 6, 8, 1, 3, 5, 7, 9}, []int{0, 5, 1, 6, 2}, api.FormSpans},
		{[]int{0, 2, 4, 6, 8, 1, 3, 5, 7, 9}, []int{0, 1, 2}, api.FormPlaces},
		{evens, from(0, rows/2), api.FormWords},
		{evens, from(0, rows), api.FormSpans},
		{spread, from(0, rows/2), api.FormSpans},
		{spread, from(0, 8), api.FormSpans},
		{spread, from(0, 4), api.FormPlaces},
		{turnedOf(evens), from(0, 1000), api.FormSpans},
		{falling(rows), from(0, 1000), api.FormSpans},
		{falling(rows), []int{3, 70, 900}, api.FormPlaces},
	} {
		places := slices.Sorted(slices.Values(c.places))
		for _, form := range forms {
			got, errno := Follow(c.l, listOf(t, places, form))
			if got.Form() != c.form || errno != api.OK {
				t.Errorf("Follow(%d.., %d.. in form %d): form %d, %d, not %d", short(c.l), short(places), form, got.Form(), errno, c.form)
			}
		}
		follows(t, c.l, places)
		seen[c.form]++
	}
	if len(seen) != 3 {
		t.Errorf("forms: %d", seen)
	}
}

// Ji2: Marks

func TestMarks(t *testing.T) {
	l := []int{2, 0, 3, 1}
	for _, c := range []struct{ marks, want []api.Mark }{
		{nil, nil},
		{[]api.Mark{}, nil},
		{[]api.Mark{{At: 0, Gone: 5}}, []api.Mark{{At: 2, Gone: 5}}},
		{[]api.Mark{{At: 3, Gone: top}}, []api.Mark{{At: 1, Gone: top}}},
		{[]api.Mark{{At: 0, Gone: 5}, {At: 1, Gone: 9}}, []api.Mark{{At: 0, Gone: 9}, {At: 2, Gone: 5}}},
		{[]api.Mark{{At: 0, Gone: 1}, {At: 1, Gone: 2}, {At: 2, Gone: 3}, {At: 3, Gone: 4}}, []api.Mark{{At: 0, Gone: 2}, {At: 1, Gone: 4}, {At: 2, Gone: 1}, {At: 3, Gone: 3}}},
	} {
		if got, errno := Marks(l, c.marks); !slices.Equal(got, c.want) || errno != api.OK {
			t.Errorf("Marks(%d, %d): %d, %d, not %d", l, c.marks, got, errno, c.want)
		}
	}
}

// All marks of few places: none, in one epoch, in another one.
func TestMarksOfFewPlaces(t *testing.T) {
	for _, l := range few(4) {
		states := 1
		for range l {
			states *= 3
		}
		for state := range states {
			var marks []api.Mark
			for place := range l {
				if gone := state % 3; gone > 0 {
					marks = append(marks, api.Mark{At: place, Gone: gone})
				}
				state /= 3
			}
			marksAsMeant(t, l, marks)
		}
	}
}

// Each number of marks: none, one, some, as many as places.
func TestMarksOfManyPlaces(t *testing.T) {
	s := stir(5)
	for _, places := range sizes[1:] {
		every := make([]api.Mark, places)
		for k := range every {
			every[k] = api.Mark{At: k, Gone: 1 + k*k*k}
		}
		every[0].Gone, every[places-1].Gone = 1, top
		for _, l := range ordersOf(places) {
			marksAsMeant(t, l, nil)
			marksAsMeant(t, l, every)
			marksAsMeant(t, l, every[:1])
			marksAsMeant(t, l, every[places-1:])
			marksAsMeant(t, l, every[places/2:places/2+1])
			marksAsMeant(t, l, every[places/3:])
			marksAsMeant(t, l, s.marks(places))
			marksAsMeant(t, l, s.marks(places))
		}
	}
}

func TestWrongMarks(t *testing.T) {
	for _, marks := range wrongMarks() {
		if areMarks(marks, rows) {
			t.Fatalf("%d may be", marks)
		}
		for _, places := range []int{0, 1, 5, 6, 256, rows} {
			for _, l := range [][]int{from(0, places), falling(places), stir(6).order(places)} {
				marksAsMeant(t, l, marks)
			}
		}
	}
}

// An At that is the order's last place, one behind it, and others.
func TestMarksBeyond(t *testing.T) {
	for _, places := range sizes {
		for _, l := range ordersOf(places) {
			for _, beyond := range []int{places, places + 1, rows - 1, rows, rows + 1, great} {
				if beyond < places {
					continue
				}
				marks := []api.Mark{{At: beyond, Gone: 4}}
				if areMarks(marks, places) {
					t.Fatalf("%d are of %d places", marks, places)
				}
				marksAsMeant(t, l, marks)
				if places > 0 {
					marksAsMeant(t, l, append([]api.Mark{{At: 0, Gone: 4}}, marks...))
					marksAsMeant(t, l, append([]api.Mark{{At: places - 1, Gone: 4}}, marks...))
				}
			}
			marksAsMeant(t, l, []api.Mark{{At: places - 1, Gone: 4}})
		}
	}
}

func TestMarksOfNoPlaces(t *testing.T) {
	for _, l := range [][]int{nil, {}} {
		for _, marks := range [][]api.Mark{nil, {}} {
			if got, errno := Marks(l, marks); len(got) != 0 || errno != api.OK {
				t.Errorf("Marks of none: %d, %d", got, errno)
			}
		}
		for _, at := range []int{0, 1, rows - 1, rows, -1, least, great} {
			marksAsMeant(t, l, []api.Mark{{At: at, Gone: 1}})
		}
	}
}

// No order, beside marks that may be, and that may not.
func TestMarksOfWrongOrders(t *testing.T) {
	for _, w := range fewWrongs() {
		for _, marks := range append(wrongMarks(), nil, []api.Mark{}, []api.Mark{{At: 0, Gone: 1}}, []api.Mark{{At: len(w) - 1, Gone: 1}}, []api.Mark{{At: len(w), Gone: 1}}) {
			marksAsMeant(t, w, marks)
		}
	}
}

// Ji2: Births

func TestBirths(t *testing.T) {
	l := []int{2, 0, 3, 1}
	for _, c := range []struct{ vals, want []int }{
		{[]int{1, 1, 2, 2}, []int{1, 2, 1, 2}},
		{[]int{1, 2, 3, 4}, []int{2, 4, 1, 3}},
		{[]int{7, 7, 7, 7}, []int{7, 7, 7, 7}},
		{[]int{1, 2, 1, 2}, []int{2, 2, 1, 1}}, // what stood apart comes to stand together
		{[]int{great, 0, least, -1}, []int{0, -1, great, least}},
	} {
		got, errno := Births(l, runsOf(c.vals...))
		if want := runsOf(c.want...); !slices.Equal(got, want) || errno != api.OK {
			t.Errorf("Births(%d, %d): %d, %d, not %d", l, runsOf(c.vals...), got, errno, want)
		}
	}
}

// All births of few places, of three numbers.
func TestBirthsOfFewPlaces(t *testing.T) {
	for _, l := range few(4) {
		states := 1
		for range l {
			states *= 3
		}
		for state := range states {
			var vals []int
			for range l {
				vals = append(vals, state%3-1)
				state /= 3
			}
			birthsAsMeant(t, l, runsOf(vals...))
		}
	}
}

// Each number of runs: one, some, as many as numbers.
func TestBirthsOfManyPlaces(t *testing.T) {
	s := stir(7)
	for _, places := range sizes {
		for _, l := range ordersOf(places) {
			for _, val := range []int{0, 1, -1, top, least, great} {
				birthsAsMeant(t, l, runsOf(slices.Repeat([]int{val}, places)...))
			}
			birthsAsMeant(t, l, runsOf(from(1, places+1)...))
			birthsAsMeant(t, l, runsOf(falling(places)...))
			birthsAsMeant(t, l, runsOf(l...))
			birthsAsMeant(t, l, runsOf(s.vals(places)...))
			birthsAsMeant(t, l, runsOf(s.vals(places)...))
			birthsAsMeant(t, l, runsOf(slices.Repeat([]int{least, great, 0}, places)[:places]...))
		}
	}
}

// Runs that are one, and come to be many; and the other way round.
func TestBirthsThatComeTogether(t *testing.T) {
	for _, places := range []int{2, 4, 8, 256, rows} {
		apart := runsOf(slices.Repeat([]int{5, 9}, places/2)...)
		halves := []api.Run{{Val: 5, Count: places / 2}, {Val: 9, First: places / 2, Count: places / 2}}
		l := make([]int, places)
		for k := range l {
			l[k] = k/2 + k%2*places/2
		}
		if got, errno := Births(l, apart); !slices.Equal(got, halves) || errno != api.OK {
			t.Errorf("%d that stood apart: %d.., %d", places, short(got), errno)
		}
		back := turnedOf(l)
		if got, errno := Births(back, halves); !slices.Equal(got, apart) || errno != api.OK {
			t.Errorf("%d that stood together: %d.., %d", places, short(got), errno)
		}
	}
}

func TestBirthsOfWrongRuns(t *testing.T) {
	for _, places := range []int{4, 5, 256, rows - 1, rows} {
		for _, born := range wrongRuns(places) {
			if areRuns(born, places) {
				t.Fatalf("%d may be of %d", born, places)
			}
			for _, l := range [][]int{from(0, places), falling(places), stir(8).order(places)} {
				birthsAsMeant(t, l, born)
			}
			birthsAsMeant(t, nil, born)
			birthsAsMeant(t, []int{0}, born)
			birthsAsMeant(t, from(0, places-1), born)
		}
	}
}

// One number fewer than the order has, one more, and none.
func TestBirthsOfUnlikeMany(t *testing.T) {
	for _, places := range sizes {
		for _, l := range ordersOf(places) {
			for _, count := range []int{0, 1, places - 1, places + 1, places + 2, 2 * places, rows, rows + 1, numbers} {
				if count == places || count < 0 {
					continue
				}
				for _, born := range [][]api.Run{runsOf(make([]int, count)...), runsOf(from(0, count)...)} {
					if areRuns(born, places) {
						t.Fatalf("%d.. are of %d", short(born), places)
					}
					birthsAsMeant(t, l, born)
				}
			}
		}
	}
}

func TestBirthsOfNoPlaces(t *testing.T) {
	for _, l := range [][]int{nil, {}} {
		for _, born := range [][]api.Run{nil, {}} {
			if got, errno := Births(l, born); len(got) != 0 || errno != api.OK {
				t.Errorf("Births of none: %d, %d", got, errno)
			}
		}
		birthsAsMeant(t, l, []api.Run{{Val: 1, Count: 1}})
		birthsAsMeant(t, l, []api.Run{{Val: 1}})
	}
}

// No order, beside births that may be, of as many numbers or not, and that may not.
func TestBirthsOfWrongOrders(t *testing.T) {
	for _, w := range fewWrongs() {
		births := append(wrongRuns(max(4, len(w))), nil, []api.Run{}, []api.Run{{Val: 1, Count: len(w)}}, []api.Run{{Val: 1, Count: len(w) + 1}}, runsOf(from(0, len(w))...), runsOf(from(1, len(w))...))
		for _, born := range births {
			birthsAsMeant(t, w, born)
		}
	}
}

// Ji3: Put

func TestPut(t *testing.T) {
	for _, c := range []struct {
		l     []int
		bytes string
	}{
		{nil, ""}, {[]int{}, ""}, {[]int{0}, ""},
		{[]int{0, 1}, "\x02"}, {[]int{1, 0}, "\x01"},
		{[]int{0, 1, 2}, "\x24"}, {[]int{2, 0, 1}, "\x12"}, {[]int{2, 1, 0}, "\x06"},
		{[]int{2, 0, 3, 1}, "\x72"}, {[]int{0, 1, 2, 3}, "\xe4"},
		{[]int{0, 1, 2, 3, 4}, "\x88\x46"}, {[]int{4, 3, 2, 1, 0}, "\x9c\x02"},
		{[]int{0, 1, 2, 3, 4, 5, 6, 7}, "\x88\xc6\xfa"},
		{[]int{8, 1, 2, 3, 4, 5, 6, 7, 0}, "\x18\x32\x54\x76\x00"},
	} {
		if got, errno := Put(c.l); got != c.bytes || errno != api.OK {
			t.Errorf("Put(%d): %x, %d, not %x", c.l, got, errno, c.bytes)
		}
		takes(t, c.bytes, c.l, len(c.bytes))
	}
}

func TestPutAndTake(t *testing.T) {
	orders := few(6)
	for _, places := range sizes {
		orders = append(orders, ordersOf(places)...)
	}
	for _, l := range orders {
		bytes, errno := Put(l)
		if bytes != bytesOf(l) || errno != api.OK {
			t.Fatalf("Put(%d..) of %d places: %x.., %d, not %x..", short(l), len(l), short([]byte(bytes)), errno, short([]byte(bytesOf(l))))
		}
		for _, behind := range []string{"", "\x00", "\x01", "\x80", "\xff", "x", bytes, bytesOf(falling(len(l))), strings.Repeat("\xff", 40)} {
			takes(t, bytes+behind, l, len(bytes))
		}
	}
}

// A second order behind the first one begins where that ends.
func TestTakeOneBehindTheOther(t *testing.T) {
	s := stir(9)
	var orders [][]int
	var bytes strings.Builder
	for range 200 {
		l := s.order(s.below(40))
		put, errno := Put(l)
		if errno != api.OK {
			t.Fatal(errno)
		}
		orders = append(orders, l)
		bytes.WriteString(put)
	}
	rest := bytes.String()
	for _, l := range orders {
		got, used, errno := Take(rest, len(l))
		orderIs(t, "Take of orders one behind the other", got, errno, l)
		rest = rest[used:]
	}
	if rest != "" {
		t.Errorf("%d bytes are left", len(rest))
	}
}

// Ji3: Take

// A number of places that may not be is told first, whatever the bytes are.
func TestTakeOfNoNumberOfPlaces(t *testing.T) {
	rule := stir(10)
	for _, n := range noSizes {
		for _, s := range []string{"", "\x00", "\x02", "\xff", bytesOf(from(0, 3)), bytesOf(from(0, rows)), bytesAs(from(0, rows+1), 13), bytesAs(rule.order(rows+2), 13) + strings.Repeat("\x00", 1<<16), strings.Repeat("\xff", 1<<17), bytesAs(make([]int, rows), 12)} {
			takesNone(t, s, n, api.ErrArg)
		}
	}
}

// No bytes are those of an order of 0 places, and of 1.
func TestTakeOfFewPlaces(t *testing.T) {
	for _, behind := range []string{"", "\x00", "\x01", "\xff", strings.Repeat("\x55", 100)} {
		takes(t, behind, nil, 0)
		takes(t, behind, []int{0}, 0)
	}
	for _, n := range []int{2, 3, 4, 5, 255, 256, 257, rows - 1, rows} {
		takesNone(t, "", n, api.ErrForm)
	}
}

// Any short bytes, for each small number of places: as many are an order as there are orders.
func TestTakeOfAnyBytes(t *testing.T) {
	orders := 1
	for n := range 6 {
		orders *= max(1, n)
		used := (n*widthIn(n) + 7) / 8
		taken := 0
		for bytes := range 1 << (8 * used) {
			s := string([]byte{byte(bytes), byte(bytes >> 8)}[:used])
			if takesAsMeant(t, s, n) {
				taken++
			}
			if len(s) == 1 {
				takesAsMeant(t, s+"\x5a", n)
			}
		}
		if taken != orders {
			t.Errorf("%d places: %d were taken, not %d", n, taken, orders)
		}
	}
	// Three bytes, of up to 8 places, some of all.
	s := stir(11)
	taken := 0
	for range 20000 {
		bytes := []byte(bytesOf(s.order(6 + s.below(3))))
		bytes[s.below(len(bytes))] ^= byte(1 << s.below(8) & s.below(256))
		for n := range 10 {
			if takesAsMeant(t, string(bytes), n) && n > 1 {
				taken++
			}
		}
	}
	if taken < 1000 {
		t.Errorf("%d alone were taken", taken)
	}
}

// Bytes of fewer places than are asked, and of more.
func TestTakeOfOtherPlaces(t *testing.T) {
	for _, has := range sizes {
		for _, l := range [][]int{from(0, has), falling(has), stir(12).order(has)} {
			bytes := bytesOf(l)
			for _, n := range sizes {
				takesAsMeant(t, bytes, n)
			}
			for _, n := range []int{has - 1, has + 1} {
				if n >= 0 && n <= rows {
					takesAsMeant(t, bytes, n)
				}
			}
		}
	}
	// As many bits a number, but one place fewer, or more.
	takesNone(t, bytesOf(from(0, 7)), 8, api.ErrForm)
	takesNone(t, bytesOf(from(0, rows-1)), rows, api.ErrForm)
	takesNone(t, bytesOf(from(0, 6)), 7, api.ErrForm)
	takes(t, bytesOf(from(0, 8)), from(0, 8), 3)
	takesNone(t, bytesOf(from(0, 8)), 7, api.ErrForm) // what fills the last byte is set
}

// Each beginning of an order's bytes.
func TestTakeOfBytesThatAreCut(t *testing.T) {
	for _, places := range sizes {
		for _, l := range ordersOf(places) {
			bytes := bytesOf(l)
			for k := range len(bytes) {
				takesNone(t, bytes[:k], places, api.ErrForm)
			}
			takes(t, bytes, l, len(bytes))
		}
	}
}

// Any bit of an order's bytes turned makes a number stand twice, or one that may not stand there, or fills the last byte otherwise.
func TestTakeOfTurnedBits(t *testing.T) {
	for _, places := range sizes {
		orders := [][]int{stir(13).order(places)}
		if places <= 257 {
			orders = ordersOf(places)
		}
		t.Run(fmt.Sprint(places), func(t *testing.T) {
			t.Parallel()
			for _, l := range orders {
				bytes := []byte(bytesOf(l))
				for bit := range 8 * len(bytes) {
					bytes[bit/8] ^= 1 << (bit % 8)
					takesNone(t, string(bytes), places, api.ErrForm)
					bytes[bit/8] ^= 1 << (bit % 8)
				}
				takes(t, string(bytes), l, len(bytes))
			}
		})
	}
}

// The bits that fill the last byte, alone and together, with bytes behind and without.
func TestTakeOfFilledBytes(t *testing.T) {
	for _, places := range sizes {
		used := places * widthIn(places) % 8
		if used == 0 {
			continue
		}
		for _, l := range ordersOf(places) {
			bytes := []byte(bytesOf(l))
			own := bytes[len(bytes)-1]
			for fill := 1; fill < 1<<(8-used); fill++ {
				bytes[len(bytes)-1] = own | byte(fill<<used)
				takesNone(t, string(bytes), places, api.ErrForm)
				takesNone(t, string(bytes)+"\x00", places, api.ErrForm)
			}
		}
	}
}

// Bytes of numbers that are no order: one twice, one that is beyond, at each place.
func TestTakeOfNoOrders(t *testing.T) {
	for _, places := range []int{2, 3, 4, 5, 8, 9, 16, 17, 255, 256, 257, rows - 1, rows} {
		width := widthIn(places)
		for _, l := range [][]int{from(0, places), falling(places), stir(14).order(places)} {
			for _, at := range []int{0, 1, places / 2, places - 2, places - 1} {
				for _, number := range []int{0, 1, places / 2, places - 2, places - 1, places, places + 1, 1<<width - 1} {
					if number == l[at] || number >= 1<<width {
						continue
					}
					bytes := bytesAs(with(l, at, number), width)
					takesNone(t, bytes, places, api.ErrForm)
					takesNone(t, bytes+bytesOf(l), places, api.ErrForm)
				}
			}
		}
		takesNone(t, bytesAs(make([]int, places), width), places, api.ErrForm)
		takesNone(t, bytesAs(slices.Repeat([]int{places - 1}, places), width), places, api.ErrForm)
		takesNone(t, bytesAs(slices.Repeat([]int{1<<width - 1}, places), width), places, api.ErrForm)
		// Of one bit more, or fewer, the numbers are others.
		takesAsMeant(t, bytesAs(from(0, places), width+1), places)
		takesAsMeant(t, bytesAs(make([]int, places), width-1), places)
	}
}

// Bytes of any length end.
func TestTakeOfLongBytes(t *testing.T) {
	long := strings.Repeat("\x00", 1<<24)
	for _, n := range []int{2, 3, rows} {
		takesNone(t, long, n, api.ErrForm)
		takes(t, bytesOf(falling(n))+long, falling(n), len(bytesOf(falling(n))))
	}
	takesNone(t, long, rows+1, api.ErrArg)
}

// R3, R4

// answer is what a call answered, as one list of numbers.
type answer struct {
	what    string
	numbers []int
}

// args are what calls are given; each list has room behind its end.
type args struct {
	a, b  []int
	marks []api.Mark
	born  []api.Run
	at    poslist.List
}

func argsOf(t *testing.T, s *stirrer, places int) args {
	vals := s.vals(places)
	return args{
		a:     roomy(s.order(places), sentinel),
		b:     roomy(s.order(places), sentinel),
		marks: roomy(s.marks(places), api.Mark{At: sentinel, Gone: sentinel}),
		born:  roomy(runsOf(vals...), api.Run{Val: sentinel, First: sentinel, Count: sentinel}),
		at:    listOf(t, s.places(places), forms[s.below(3)]),
	}
}

// whole are the numbers of all lists, and of the room behind their ends.
func (g args) whole() []int {
	l := slices.Concat(g.a[:cap(g.a)], g.b[:cap(g.b)], slices.Collect(g.at.Places()), []int{g.at.Form()})
	return slices.Concat(l, marksAsNumbers(g.marks[:cap(g.marks)]), runsAsNumbers(g.born[:cap(g.born)]))
}

// spoil writes over all lists.
func (g args) spoil() {
	spoil(g.a, sentinel)
	spoil(g.b, sentinel)
	spoil(g.marks, api.Mark{At: sentinel, Gone: sentinel})
	spoil(g.born, api.Run{Val: sentinel, First: sentinel, Count: sentinel})
}

// spoil writes that over a list and the room behind its end.
func spoil[T any](l []T, with T) {
	l = l[:cap(l)]
	for k := range l {
		l[k] = with
	}
}

func marksAsNumbers(l []api.Mark) []int {
	var made []int
	for _, mark := range l {
		made = append(made, mark.At, mark.Gone)
	}
	return made
}

func runsAsNumbers(l []api.Run) []int {
	var made []int
	for _, run := range l {
		made = append(made, run.Val, run.First, run.Count)
	}
	return made
}

// answered keeps what calls answered, so that it can be looked at, and written over, later.
type answered struct {
	turned, between, taken []int
	followed               poslist.List
	marks                  []api.Mark
	born                   []api.Run
	bytes                  string
}

// ask calls each call.
func (g args) ask(t *testing.T) answered {
	t.Helper()
	var got answered
	var errnos [8]api.Errno
	errnos[0] = Check(g.a)
	got.turned, errnos[1] = Turned(g.a)
	got.between, errnos[2] = Between(g.a, g.b)
	got.followed, errnos[3] = Follow(g.a, g.at)
	got.marks, errnos[4] = Marks(g.a, g.marks)
	got.born, errnos[5] = Births(g.a, g.born)
	got.bytes, errnos[6] = Put(g.a)
	got.taken, _, errnos[7] = Take(got.bytes, len(g.a))
	if errnos != [8]api.Errno{} {
		t.Fatalf("errors: %d", errnos)
	}
	return got
}

// told are all answers.
func (got answered) told() []answer {
	return []answer{
		{"Turned", slices.Clone(got.turned)}, {"Between", slices.Clone(got.between)}, {"Follow", append(slices.Collect(got.followed.Places()), got.followed.Form())},
		{"Marks", marksAsNumbers(got.marks)}, {"Births", runsAsNumbers(got.born)}, {"Put", asNumbers(got.bytes)}, {"Take", slices.Clone(got.taken)},
	}
}

func asNumbers(s string) []int {
	var l []int
	for k := range len(s) {
		l = append(l, int(s[k]))
	}
	return l
}

// isTold fails if answers are others than these.
func isTold(t *testing.T, when string, got answered, want []answer) {
	t.Helper()
	for k, one := range got.told() {
		if !slices.Equal(one.numbers, want[k].numbers) {
			t.Errorf("%s: %s: %d.., not %d..", when, one.what, short(one.numbers), short(want[k].numbers))
		}
	}
}

// What was handed in is as it was; what was answered is its own, and the same each time.
func TestListsAreNotKept(t *testing.T) {
	s := stir(15)
	for _, places := range []int{0, 1, 2, 3, 4, 5, 8, 9, 60, 256, rows} {
		for range 20 {
			g := argsOf(t, s, places)
			before := g.whole()
			first := g.ask(t)
			want := first.told()
			second := g.ask(t)
			isTold(t, "a second time", second, want)
			if !slices.Equal(g.whole(), before) {
				t.Fatalf("what was handed in was changed: %d.., not %d..", short(g.whole()), short(before))
			}
			spoil(first.turned, sentinel)
			spoil(first.between, sentinel)
			spoil(first.taken, sentinel)
			spoil(first.marks, api.Mark{At: sentinel, Gone: sentinel})
			spoil(first.born, api.Run{Val: sentinel, First: sentinel, Count: sentinel})
			if !slices.Equal(g.whole(), before) {
				t.Fatalf("what was handed in was answered: %d.., not %d..", short(g.whole()), short(before))
			}
			isTold(t, "when what was answered ahead is changed", second, want)
			isTold(t, "a third time", g.ask(t), want)
			g.spoil()
			isTold(t, "when what was handed in is changed", second, want)
		}
	}
}

// The same of the orders that lead nowhere else, and of the same list twice.
func TestRisingOrdersAreNotKept(t *testing.T) {
	for _, places := range sizes[1:] {
		l := roomy(from(0, places), sentinel)
		before := slices.Clone(l[:cap(l)])
		turned, _ := Turned(l)
		between, _ := Between(l, l)
		marks := roomy([]api.Mark{{At: 0, Gone: 3}}, api.Mark{At: sentinel})
		ledMarks, _ := Marks(l, marks)
		born := roomy([]api.Run{{Val: 7, Count: places}}, api.Run{Val: sentinel})
		ledBorn, _ := Births(l, born)
		turned[0], between[places-1] = -5, -6
		ledMarks[0].Gone, ledBorn[0].Val = -7, -8
		if !slices.Equal(l[:cap(l)], before) {
			t.Errorf("%d.. was answered", short(l))
		}
		if marks[0].Gone != 3 || born[0].Val != 7 {
			t.Errorf("%d, %d were answered", marks, born)
		}
		spoil(l, sentinel)
		if places > 1 && (turned[places-1] != places-1 || between[0] != 0) {
			t.Errorf("%d.., %d.. were kept", short(turned), short(between))
		}
	}
}

// What is refused is left as it was, too.
func TestWhatIsRefusedIsNotChanged(t *testing.T) {
	list := listOf(t, []int{0, 2, last}, api.FormPlaces)
	for _, w := range append(fewWrongs(), from(0, 3), falling(300)) {
		l := roomy(w, sentinel)
		other := roomy(from(0, 7), sentinel)
		marks := roomy([]api.Mark{{At: 3, Gone: 9}, {At: 1, Gone: 4}}, api.Mark{At: sentinel})
		born := roomy([]api.Run{{Val: 7, Count: 1}, {Val: 7, First: 1, Count: 3}}, api.Run{Val: sentinel})
		told := func() []int {
			return slices.Concat(l[:cap(l)], other[:cap(other)], slices.Collect(list.Places()), marksAsNumbers(marks[:cap(marks)]), runsAsNumbers(born[:cap(born)]))
		}
		before := told()
		Check(l)
		Turned(l)
		_, noBetween := Between(l, other)
		_, noBack := Between(other, l)
		_, noFollow := Follow(l, list)
		_, noMarks := Marks(l, marks)
		_, noBirths := Births(l, born)
		Put(l)
		if noBetween != api.ErrArg || noBack != api.ErrArg || noFollow == api.OK || noMarks != api.ErrArg || noBirths != api.ErrArg {
			t.Errorf("%d..: %d, %d, %d, %d, %d", short(w), noBetween, noBack, noFollow, noMarks, noBirths)
		}
		if !slices.Equal(told(), before) {
			t.Errorf("%d.. was changed", short(w))
		}
	}
}

// nil and the empty list are answered alike.
func TestNilAndEmpty(t *testing.T) {
	for _, order := range [][]int{nil, {}} {
		for _, other := range [][]int{nil, {}, {0}, {0, 1}} {
			got, errno := Between(order, other)
			if want := len(other) == 0; len(got) != 0 || (errno == api.OK) != want {
				t.Errorf("Between(%#v, %#v): %d, %d", order, other, got, errno)
			}
		}
		if errno := Check(order); errno != api.OK {
			t.Errorf("Check(%#v): %d", order, errno)
		}
		if got, errno := Turned(order); len(got) != 0 || errno != api.OK {
			t.Errorf("Turned(%#v): %d, %d", order, got, errno)
		}
		if got, errno := Put(order); got != "" || errno != api.OK {
			t.Errorf("Put(%#v): %x, %d", order, got, errno)
		}
	}
	for _, l := range few(3) {
		for _, marks := range [][]api.Mark{nil, {}} {
			if got, errno := Marks(l, marks); len(got) != 0 || errno != api.OK {
				t.Errorf("Marks(%d, %#v): %d, %d", l, marks, got, errno)
			}
		}
		for _, born := range [][]api.Run{nil, {}} {
			got, errno := Births(l, born)
			if want := len(l) == 0; len(got) != 0 || (errno == api.OK) != want {
				t.Errorf("Births(%d, %#v): %d, %d", l, born, got, errno)
			}
		}
	}
}

// Ji4

// laws fails if an order, turned twice, is not itself, or if what it leads to does not lead back.
func laws(t *testing.T, s *stirrer, l []int) {
	t.Helper()
	back, errno := Turned(l)
	if errno != api.OK || !isOrder(back) {
		t.Fatalf("Turned(%d..): %d.., %d", short(l), short(back), errno)
	}
	again, errno := Turned(back)
	orderIs(t, "turned twice", again, errno, l)
	for k, number := range l {
		if back[number] != k || l[back[k]] != k {
			t.Fatalf("there and back of %d..: from %d to %d", short(l), k, back[number])
		}
	}
	for _, places := range [][]int{nil, from(0, len(l)), s.places(len(l)), s.places(len(l))} {
		list := listOf(t, places, forms[s.below(3)])
		there, errno := Follow(l, list)
		if errno != api.OK || there.Count() != len(places) {
			t.Fatalf("Follow(%d.., %d..): %d places, %d", short(l), short(places), there.Count(), errno)
		}
		here, errno := Follow(back, there)
		if errno != api.OK {
			t.Fatal(errno)
		}
		isList(t, "there and back", here, places)
	}
	marks := s.marks(len(l))
	thereMarks, _ := Marks(l, marks)
	hereMarks, errno := Marks(back, thereMarks)
	if !slices.Equal(hereMarks, marks) || len(thereMarks) != len(marks) || errno != api.OK {
		t.Fatalf("marks there and back: %d.., %d.., %d", short(hereMarks), short(thereMarks), errno)
	}
	born := runsOf(s.vals(len(l))...)
	thereBorn, _ := Births(l, born)
	hereBorn, errno := Births(back, thereBorn)
	if !slices.Equal(hereBorn, born) || !areRuns(thereBorn, len(l)) || errno != api.OK {
		t.Fatalf("births there and back: %d.., %d.., %d", short(hereBorn), short(thereBorn), errno)
	}
}

func TestLaws(t *testing.T) {
	s := stir(16)
	for _, l := range few(6) {
		laws(t, s, l)
	}
	for _, places := range sizes {
		for _, l := range ordersOf(places) {
			laws(t, s, l)
		}
		for range 20 {
			laws(t, s, s.order(places))
		}
	}
}

// From one order's places to another's, and from there back, is the same place; by way of a third one, too.
func TestLawsOfTwoOrders(t *testing.T) {
	s := stir(17)
	between := func(a, b []int) []int {
		t.Helper()
		l, errno := Between(a, b)
		if errno != api.OK || !isOrder(l) {
			t.Fatalf("Between(%d.., %d..): %d.., %d", short(a), short(b), short(l), errno)
		}
		return l
	}
	for _, places := range sizes {
		for range 20 {
			a, b, c := s.order(places), s.order(places), s.order(places)
			there, back := between(a, b), between(b, a)
			orderIs(t, "there, turned", turnedOf(there), api.OK, back)
			on, through := between(b, c), between(a, c)
			for k := range places {
				if back[there[k]] != k || there[back[k]] != k || b[there[k]] != a[k] || on[there[k]] != through[k] {
					t.Fatalf("from %d: to %d and back to %d, on to %d, and at once to %d", k, there[k], back[there[k]], on[there[k]], through[k])
				}
			}
			// The rows at some places of a stand at those of b to which they lead.
			list := listOf(t, s.places(places), forms[s.below(3)])
			byA, _ := Follow(a, list)
			inB, _ := Follow(there, list)
			byB, errno := Follow(b, inB)
			if errno != api.OK {
				t.Fatal(errno)
			}
			isList(t, "by way of another order", byB, slices.Collect(byA.Places()))
			home, _ := Follow(back, inB)
			isList(t, "home again", home, slices.Collect(list.Places()))
		}
	}
}
