package wos

import (
	"peristyle/api"
	"peristyle/poslist"
	"peristyle/vint"
	"slices"
	"strings"
	"testing"
)

// Wr1: New and Add

// The chapter's example.
func TestExample(t *testing.T) {
	s, errno := New(4)
	if errno != api.OK {
		t.Fatal(errno)
	}
	if errno := s.Add([]api.Row{nums(5), nums(9)}, 1); errno != api.OK {
		t.Fatal(errno)
	}
	if errno := s.Delete(listOf(t, 0), 2); errno != api.OK {
		t.Fatal(errno)
	}
	isList(t, "Visible(1)", s.Visible(1), []int{0, 1})
	isList(t, "Visible(2)", s.Visible(2), []int{1})
	if count, left := s.Count(), s.Left(); count != 2 || left != 2 {
		t.Errorf("Count %d, Left %d", count, left)
	}
}

func TestNew(t *testing.T) {
	for _, most := range []int{1, 2, 3, 63, 64, 256, room - 1, room} {
		made(t, most)
	}
	for _, most := range []int{0, -1, -2, -room, least, least + 1, room + 1, room + 2, 2 * room, limit, 1 << 32, 1<<32 + 1, great - 1, great} {
		if s, errno := New(most); s != nil || errno != api.ErrArg {
			t.Errorf("New(%d): %v, %d, not ErrArg alone", most, s, errno)
		}
	}
}

// As many rows as there is room for, and one more, in one call and in many.
func TestAddTillItIsFull(t *testing.T) {
	for _, most := range []int{1, 2, 3, 64, room} {
		for _, first := range []int{0, 1, most / 2, most - 1, most} {
			p := made(t, most)
			p.adds(ones(first), 1, api.OK)
			p.adds(ones(most-first+1), 2, api.ErrFull)
			p.adds(ones(most+1), 2, api.ErrFull)
			p.adds(ones(most-first), 2, api.OK)
			p.adds(ones(1), 3, api.ErrFull)
			p.adds(ones(most), 3, api.ErrFull)
			p.adds(nil, 3, api.OK)
			p.adds([]api.Row{}, 3, api.OK)
		}
		p := made(t, most)
		p.adds(ones(most+1), 1, api.ErrFull)
		p.adds(ones(most), 1, api.OK)
		q := made(t, most)
		for k := range most {
			q.adds([]api.Row{nums(k)}, 1+k%5, api.OK)
		}
		q.adds(ones(1), 1, api.ErrFull)
	}
}

// Rows that went need room as others do.
func TestRowsThatWentKeepTheirRoom(t *testing.T) {
	p := made(t, 3)
	p.adds(ones(3), 1, api.OK)
	p.deletes([]int{0, 1, 2}, 2, api.OK)
	p.adds(ones(1), 3, api.ErrFull)
}

func TestAddInEpochs(t *testing.T) {
	p := made(t, room)
	for _, e := range slices.Concat(epochs, []int{5, 4, 9, 4, 1, top, 1, 2}) {
		p.adds(ones(2), e, api.OK)
		p.adds(nil, e, api.OK)
	}
	for _, e := range noEpochs {
		p.adds(ones(2), e, api.ErrArg)
		p.adds(nil, e, api.ErrArg)
	}
}

func TestAddOfRowsThatMayBe(t *testing.T) {
	p := made(t, room)
	p.adds(goodRows(), 1, api.OK)
	for k, r := range goodRows() {
		p.adds([]api.Row{r}, 1+k, api.OK)
	}
}

// A row that may not be put, as the first one, as one of the midst, as the last one: none of the rows comes.
func TestAddOfRowsThatMayNotBe(t *testing.T) {
	p := made(t, 20)
	p.adds(ones(2), 3, api.OK)
	for _, bad := range badRows() {
		p.adds([]api.Row{bad}, 4, api.ErrArg)
		p.adds([]api.Row{bad, nums(1), nums(2)}, 4, api.ErrArg)
		p.adds([]api.Row{nums(1), bad, nums(2)}, 4, api.ErrArg)
		p.adds([]api.Row{nums(1), nums(2), bad}, 4, api.ErrArg)
		p.adds([]api.Row{bad, bad}, 4, api.ErrArg)
	}
	p.adds(ones(18), 4, api.OK)
}

// ErrArg is told ahead of ErrFull.
func TestAddErrorsInOrder(t *testing.T) {
	p := made(t, 2)
	p.adds(ones(1), 1, api.OK)
	wrong := []api.Row{nums(1), nums(2), {{N: 1}}}
	p.adds(ones(2), 0, api.ErrArg)
	p.adds(ones(2), top+1, api.ErrArg)
	p.adds(wrong, 1, api.ErrArg)
	p.adds(wrong, 0, api.ErrArg)
	p.adds(wrong[:2], 1, api.ErrFull)
	p.adds(wrong[2:], 1, api.ErrArg)
	p.adds(ones(1), 1, api.OK)
	p.adds(wrong[2:], 1, api.ErrArg)
	p.adds(nil, 0, api.ErrArg)
	p.adds(ones(1), 1, api.ErrFull)
}

// Wr1: Delete

func TestDeleteOfPlaces(t *testing.T) {
	for _, rows := range []int{0, 1, 2, 5, 64, 65, 200, room} {
		for _, places := range some(rows) {
			p := made(t, room)
			p.adds(ones(rows), 3, api.OK)
			want := api.OK
			if len(places) > 0 && places[len(places)-1] >= rows {
				want = api.ErrNone
			}
			p.deletes(places, 4, want)
		}
	}
}

func TestDeleteOfAStoreWithoutRows(t *testing.T) {
	p := made(t, 5)
	p.deletes(nil, 1, api.OK)
	for _, at := range []int{0, 1, 4, 5, bound - 1} {
		p.deletes([]int{at}, 1, api.ErrNone)
	}
}

// A row that went, in the same epoch, in an elder and in a later one, as the first of the list, as one of the midst, as the last: none of the list goes.
func TestDeleteOfRowsThatWent(t *testing.T) {
	for _, e := range []int{1, 4, 5, 6, top} {
		for _, went := range []int{0, 2, 4} {
			p := made(t, 9)
			p.adds(ones(5), 3, api.OK)
			p.deletes([]int{went}, 5, api.OK)
			p.deletes([]int{went}, e, api.ErrNone)
			p.deletes(from(0, 5), e, api.ErrNone)
			p.deletes(slices.Compact(slices.Sorted(slices.Values([]int{1, went, 3}))), e, api.ErrNone)
			p.deletes(append(from(0, 5), 9), e, api.ErrNone)
			p.deletes(slices.DeleteFunc(from(0, 5), func(at int) bool { return at == went }), e, api.OK)
			p.deletes(from(0, 5), e, api.ErrNone)
			p.deletes(nil, e, api.OK)
		}
	}
}

// Each of the rows that a list of four has, and each that went: all ways.
func TestDeleteOfFewRows(t *testing.T) {
	places := func(bits int) []int {
		return slices.DeleteFunc(from(0, 5), func(at int) bool { return bits>>at&1 == 0 })
	}
	for went := range 1 << 4 {
		for goes := range 1 << 5 {
			p := made(t, 4)
			p.adds(ones(4), 2, api.OK)
			p.deletes(places(went), 7, api.OK)
			want := api.OK
			if went&goes != 0 || goes >= 1<<4 {
				want = api.ErrNone
			}
			p.deletes(places(goes), 6, want)
		}
	}
}

// An epoch ahead of the one in which a row came is one like others.
func TestDeleteInEpochs(t *testing.T) {
	for _, e := range epochs {
		for _, came := range []int{1, 2, 1 << 32, top} {
			p := made(t, 9)
			p.adds(ones(3), came, api.OK)
			p.deletes(nil, e, api.OK)
			p.deletes([]int{0, 2}, e, api.OK)
			p.deletes([]int{1}, e, api.OK)
			for _, seen := range []int{came - 1, came, came + 1, e - 1, e, e + 1} {
				p.sees(seen)
			}
		}
	}
}

// ErrArg is told ahead of ErrNone.
func TestDeleteInNoEpochs(t *testing.T) {
	for _, rows := range []int{0, 3} {
		p := made(t, 9)
		p.adds(ones(rows), 1, api.OK)
		if rows > 0 {
			p.deletes([]int{1}, 2, api.OK)
		}
		for _, e := range noEpochs {
			p.deletes(nil, e, api.ErrArg)
			p.deletes([]int{0}, e, api.ErrArg)
			p.deletes([]int{1}, e, api.ErrArg)
			p.deletes([]int{3}, e, api.ErrArg)
			p.deletes([]int{bound - 1}, e, api.ErrArg)
		}
	}
}

// Wr1: Lives and Cut

func TestLives(t *testing.T) {
	if l := made(t, 3).s.Lives(); len(l) != 0 {
		t.Errorf("%v", l)
	}
	of(t, born(1, 3, 0), born(2, 1, 5), api.Live{Born: 2}, born(3, top, top), born(4, top, 1), api.Live{Row: goodRows()[8], Born: 1})
	p := made(t, room)
	for k, r := range stir(1).rows(room) {
		p.adds([]api.Row{r}, 1+k*k%7, api.OK)
	}
}

// around are numbers around what rows may be Born in.
var around = []int{least, least + 1, -top, -1, 0, 1, 2, 3, 4, 5, 6, 1 << 32, top - 1, top, top + 1, 1 << 62, great - 1, great}

func TestCutOfAStoreWithoutRows(t *testing.T) {
	p := made(t, 3)
	for _, e := range around {
		if l := p.cuts(e); len(l) != 0 {
			t.Errorf("Cut(%d): %v", e, l)
		}
	}
	p.adds(ones(3), 1, api.OK)
}

// Rows Born in all orders, some of which went: those that stay are at the beginning, in the midst, at the end.
func TestCutOfRowsInAnyOrder(t *testing.T) {
	for way := range 3 * 3 * 3 * 3 {
		lives := []api.Live{born(0, 2+2*(way%3), 0), born(1, 2+2*(way/3%3), 3), born(2, 2+2*(way/9%3), 0), born(3, 2+2*(way/27%3), 9)}
		for _, e := range around {
			p := of(t, lives...)
			p.cuts(e)
			p.cuts(e)
		}
		p := of(t, lives...)
		for e := range 8 {
			p.cuts(e)
		}
		if p.s.Count() != 0 {
			t.Fatalf("%d rows stay", p.s.Count())
		}
	}
}

func TestCutAtTheEnds(t *testing.T) {
	lives := []api.Live{born(0, top, 0), born(1, 1, 0), born(2, top-1, 1), born(3, 1<<32, top)}
	for _, e := range around {
		of(t, lives...).cuts(e)
	}
}

// Behind a cut the places are counted from 0 on anew, and there is room for as many more.
func TestRowsBehindACut(t *testing.T) {
	p := made(t, 6)
	p.adds(ones(2), 4, api.OK)
	p.adds([]api.Row{nums(20), nums(21, 22)}, 7, api.OK)
	p.adds([]api.Row{nums(30), nums(31)}, 2, api.OK)
	p.deletes([]int{1, 3}, 8, api.OK)
	p.adds(ones(1), 8, api.ErrFull)
	p.cuts(4)
	p.deletes([]int{1}, 9, api.ErrNone)
	p.deletes([]int{2}, 9, api.ErrNone)
	p.reads([]int{0, 1}, []int{0, 1})
	p.scans(0, asked(api.TestGt, num(20)), []int{0, 1})
	for e := range 10 {
		p.sees(e)
	}
	p.adds(ones(5), 9, api.ErrFull)
	p.adds(ones(4), 9, api.OK)
	p.deletes([]int{0, 2, 5}, 9, api.OK)
	p.cuts(8)
	p.adds(ones(2), 1, api.OK)
	p.cuts(9)
	p.adds(ones(7), 9, api.ErrFull)
	p.adds(ones(6), 9, api.OK)
}

func TestCutOfAFullStore(t *testing.T) {
	s := stir(2)
	for _, e := range []int{0, 1, 3, 5} {
		p := made(t, room)
		for _, r := range s.rows(room) {
			p.adds([]api.Row{r}, 1+s.below(5), api.OK)
		}
		p.deletes(s.places(room), 4, api.OK)
		cut := len(p.cuts(e))
		p.adds(ones(cut+1), 1, api.ErrFull)
		p.adds(ones(cut), 1, api.OK)
	}
}

// Wr1: Copy

// changes are calls that change a store of three rows and room for three more.
var changes = []func(p pair){
	func(p pair) { p.adds([]api.Row{nums(7), nums(8)}, 9, api.OK) },
	func(p pair) { p.adds(ones(3), 1, api.OK) },
	func(p pair) { p.deletes([]int{0, 2}, 5, api.OK) },
	func(p pair) { p.cuts(2) },
	func(p pair) { p.cuts(top) },
	func(p pair) { p.adds(ones(1), 2, api.OK); p.deletes([]int{3}, 3, api.OK); p.cuts(1) },
	func(p pair) { p.cuts(1); p.adds(ones(2), 2, api.OK); p.deletes([]int{1, 2}, 3, api.OK) },
}

// two is a pair, and the pair of its copy.
func two(p pair) (pair, pair) {
	c := pair{p.T, p.s.Copy(), p.m.copy()}
	c.same("Copy")
	return p, c
}

func TestACopyGoesItsOwnWay(t *testing.T) {
	for _, first := range changes {
		for _, second := range changes {
			for _, turned := range []bool{false, true} {
				p, c := two(of(t, born(0, 1, 0), born(1, 3, 4), born(2, 2, 0)))
				if turned {
					p, c = c, p
				}
				first(p)
				c.same("a change of the other one")
				second(c)
				p.same("a change of the other one")
			}
		}
	}
}

// A copy is of as many rows: of none, of a full store, and a copy of a copy.
func TestACopyIsTheSame(t *testing.T) {
	for _, most := range []int{1, 3, room} {
		for _, rows := range []int{0, 1, most / 2, most} {
			p := made(t, most)
			p.adds(ones(rows), 3, api.OK)
			_, c := two(p)
			_, c = two(c)
			c.adds(ones(most-rows+1), 4, api.ErrFull)
			c.adds(ones(most-rows), 4, api.OK)
			c.deletes(from(0, most), 5, api.OK)
			p.same("changes of its copy's copy")
		}
	}
}

// Wr2: Visible

func TestVisible(t *testing.T) {
	lives := []api.Live{born(0, 2, 4), born(1, 3, 0), born(2, 5, 5), born(3, 5, 2), born(4, 1, 1), born(5, top, 0), born(6, 1, top), born(7, 7, 0), born(8, top, top), born(9, top, 1)}
	p := of(t, lives...)
	for _, e := range slices.Concat(around, []int{7, 8, top + 2, -2}) {
		p.sees(e)
	}
	isList(t, "Visible(3)", p.s.Visible(3), []int{0, 1, 6})
	isList(t, "Visible(4)", p.s.Visible(4), []int{1, 6})
	isList(t, "Visible of the greatest int", p.s.Visible(great), []int{1, 5, 7})
	isList(t, "Visible of the least int", p.s.Visible(least), nil)
}

func TestVisibleOfNone(t *testing.T) {
	p := made(t, 3)
	for _, e := range around {
		isList(t, "Visible", p.s.Visible(e), nil)
	}
}

// A row of each life, asked in each epoch around.
func TestVisibleOfOneRow(t *testing.T) {
	for came := 1; came < 6; came++ {
		for went := range 7 {
			for e := -1; e < 8; e++ {
				p := of(t, born(0, came, went))
				p.sees(e)
			}
		}
	}
}

func TestVisibleForms(t *testing.T) {
	for _, places := range [][]int{nil, {0}, {0, 1, 2}, from(0, 4), from(0, 5), from(0, room), every(0, 2, 4), every(0, 2, 32), every(0, 3, 100), every(0, 64, 8), every(1, 2, 256), {room - 1}, {0, room - 1}, slices.Concat(from(0, 100), from(200, 300))} {
		p := made(t, room)
		for at := range room {
			e := 9
			if slices.Contains(places, at) {
				e = 5
			}
			p.adds([]api.Row{nums(at)}, e, api.OK)
		}
		isList(t, "Visible(5)", p.s.Visible(5), places)
		got, errno := p.s.Scan(0, isSome, listOf(t, places...))
		if errno != api.OK {
			t.Fatal(errno)
		}
		isList(t, "Scan", got, places)
		p.sees(4)
		p.sees(8)
		p.sees(9)
	}
}

// Wr2: Scan

// mixed is a store of rows of unlike lengths, some of which went.
func mixed(t *testing.T) pair {
	lives := []api.Live{
		{Row: nums(5, 10), Born: 1}, {Born: 2, Gone: 3}, {Row: api.Row{txt("a"), {}, num(7)}, Born: 1, Gone: 1}, {Row: api.Row{{}, txt("")}, Born: 4},
		{Row: nums(-5), Born: 2}, {Row: api.Row{txt("b"), num(10), num(8), txt("c")}, Born: 1}, {Row: slices.Repeat(nums(5), wide), Born: 3, Gone: 9}, {Row: api.Row{num(great), num(least)}, Born: top},
	}
	return of(t, lives...)
}

func TestScan(t *testing.T) {
	p := mixed(t)
	vals := []api.Cell{num(5), num(-5), num(10), num(7), num(least), num(great), num(0), txt(""), txt("a"), txt("b"), txt(xs(32))}
	for _, asks := range tests(vals...) {
		for _, col := range []int{0, 1, 2, 3, 4, 253, 254, 255, 256, 1 << 32, great - 1, great} {
			for _, places := range some(8) {
				p.scans(col, asks, places)
			}
		}
	}
}

// A row without the column has a null there; rows that went are looked through as others.
func TestScanOfNulls(t *testing.T) {
	p := mixed(t)
	for _, is := range []struct {
		col  int
		none []int
	}{{0, []int{1, 3}}, {1, []int{1, 2, 4}}, {2, []int{0, 1, 3, 4, 7}}, {3, []int{0, 1, 2, 3, 4, 7}}, {254, []int{0, 1, 2, 3, 4, 5, 7}}, {255, from(0, 8)}, {great, from(0, 8)}} {
		none, errno := p.s.Scan(is.col, isNone, listOf(t, from(0, 8)...))
		if errno != api.OK {
			t.Fatal(errno)
		}
		isList(t, "Scan for TestNull", none, is.none)
		others, errno := p.s.Scan(is.col, isSome, listOf(t, from(0, 8)...))
		if errno != api.OK {
			t.Fatal(errno)
		}
		isList(t, "Scan for TestSome", others, slices.DeleteFunc(from(0, 8), func(at int) bool { return slices.Contains(is.none, at) }))
	}
}

// ErrArg is told ahead of ErrNone, of a store without rows, too.
func TestScanOfWrongArguments(t *testing.T) {
	for _, p := range []pair{mixed(t), made(t, 3)} {
		for _, places := range [][]int{nil, {0}, {7}, {8}, {bound - 1}} {
			for _, asks := range noTests() {
				for _, col := range []int{0, 300, -1, least} {
					if errno := p.scans(col, asks, places); errno != api.ErrArg {
						t.Fatal(errno)
					}
				}
			}
			for _, col := range []int{-1, -2, -255, -1 << 32, least, least + 1} {
				if errno := p.scans(col, isNone, places); errno != api.ErrArg {
					t.Fatal(errno)
				}
			}
		}
		for _, at := range []int{8, 9, 511, 512, bound - 1} {
			if errno := p.scans(0, isNone, []int{at}); errno != api.ErrNone {
				t.Fatal(errno)
			}
		}
	}
}

// Wr2: Rows

func TestRows(t *testing.T) {
	p := mixed(t)
	for _, cols := range [][]int{nil, {}, {0}, {1}, {0, 1}, {1, 0}, {0, 0}, {1, 1, 1}, {3, 0, 2}, {254}, {255}, {254, 0, 255, 256}, {300, 400}, {great}, {great, great - 1, 0, 1 << 32}, from(0, 300)} {
		for _, places := range some(8) {
			want := api.OK
			if len(places) > 0 && places[len(places)-1] >= 8 {
				want = api.ErrNone
			}
			if errno := p.reads(cols, places); errno != want {
				t.Fatal(errno)
			}
		}
	}
}

// Of no columns there are as many rows as places, none with a cell.
func TestRowsOfNoColumns(t *testing.T) {
	l, errno := mixed(t).s.Rows(nil, listOf(t, 1, 2, 6))
	if len(l) != 3 || len(l[0])+len(l[1])+len(l[2]) != 0 || errno != api.OK {
		t.Errorf("%v, %d", l, errno)
	}
}

// ErrArg is told ahead of ErrNone, and of no places, too.
func TestRowsOfWrongArguments(t *testing.T) {
	for _, p := range []pair{mixed(t), made(t, 3)} {
		for _, places := range [][]int{nil, {0}, {8}, {0, bound - 1}} {
			for _, col := range []int{-1, -2, -1 << 32, least, least + 1} {
				for _, cols := range [][]int{{col}, {col, 0, 1}, {0, col, 1}, {0, 1, col}, {col, col}, {great, col}} {
					if errno := p.reads(cols, places); errno != api.ErrArg {
						t.Fatal(errno)
					}
				}
			}
		}
		for _, at := range []int{8, 9, 511, 512, bound - 1} {
			for _, cols := range [][]int{nil, {0}, {great}} {
				if errno := p.reads(cols, []int{at}); errno != api.ErrNone {
					t.Fatal(errno)
				}
			}
		}
	}
}

// Wr3

// goesBack fails if lives that may be are not put to the chapter's bytes, and taken of these as they were.
func goesBack(t *testing.T, l []api.Live) {
	t.Helper()
	s := bytesOf(l)
	puts(t, l, s, api.OK)
	takes(t, s, l, len(s))
	takes(t, s+"x", l, len(s))
	takes(t, s+s, l, len(s))
	takes(t, s+"\x80\x80", l, len(s))
}

// refuses fails if lives that may not be put are put.
func refuses(t *testing.T, l []api.Live) {
	t.Helper()
	puts(t, l, "", api.ErrArg)
}

// inThree are lists of three lives, each with a life at another place, and of it alone.
func inThree(life api.Live) [][]api.Live {
	good := born(4, 2, 3)
	return [][]api.Live{{life}, {life, good, good}, {good, life, good}, {good, good, life}}
}

func TestPutAndTake(t *testing.T) {
	puts(t, nil, "\x00", api.OK)
	puts(t, []api.Live{}, "\x00", api.OK)
	puts(t, []api.Live{born(-5, 1, 0)}, "\x02\x01\x01\x09\x02\x00", api.OK)
	puts(t, []api.Live{{Born: 1}, {Row: api.Row{txt("it's"), {}}, Born: 64, Gone: 2}}, "\x04\x00\x02\x00\x02\x02\x04it's\x00\x80\x01\x04", api.OK)
	takes(t, "\x00", nil, 1)
	takes(t, "\x02\x01\x01\x09\x02\x00", []api.Live{born(-5, 1, 0)}, 6)
	takes(t, "\x02\x01\x01\x09\x02\x00\x02", []api.Live{born(-5, 1, 0)}, 6)
	goesBack(t, nil)
	for _, r := range goodRows() {
		for _, e := range epochs {
			for _, l := range inThree(api.Live{Row: r, Born: e, Gone: 0}) {
				goesBack(t, l)
			}
		}
	}
}

// A Gone ahead of Born is one like others.
func TestPutAndTakeOfEpochs(t *testing.T) {
	for _, came := range epochs {
		for _, went := range append(epochs, 0) {
			for _, l := range inThree(born(7, came, went)) {
				goesBack(t, l)
			}
		}
	}
	for _, e := range noEpochs {
		for _, l := range slices.Concat(inThree(born(7, e, 0)), inThree(born(7, e, 5))) {
			refuses(t, l)
			takesNone(t, bytesOf(l))
			takesNone(t, bytesOf(l)+"xx")
		}
		if e == 0 {
			continue
		}
		for _, l := range slices.Concat(inThree(born(7, 1, e)), inThree(born(7, top, e))) {
			refuses(t, l)
			takesNone(t, bytesOf(l))
		}
	}
}

func TestPutOfRowsThatMayNotBe(t *testing.T) {
	for _, r := range badRows() {
		for _, l := range inThree(api.Live{Row: r, Born: 1}) {
			refuses(t, l)
		}
	}
}

func TestPutOfManyLives(t *testing.T) {
	for _, count := range []int{1, 63, 64, 128, limit - 1, limit} {
		goesBack(t, stir(count).lives(count, 100))
	}
	for _, count := range []int{limit + 1, limit + 2, 2 * limit} {
		l := stir(count).lives(count, 100)
		refuses(t, l)
		takesNone(t, bytesOf(l))
		takes(t, bytesAs(limit, l), l[:limit], len(bytesOf(l[:limit])))
	}
	l := stir(3).lives(limit, 100)
	l[limit-1].Born = 0
	refuses(t, l)
	takesNone(t, bytesOf(l))
}

func TestTakeOfCounts(t *testing.T) {
	l := stir(4).lives(limit+2, 9)
	for _, count := range []int{-1, -2, -64, -limit, least, least + 1, limit + 1, limit + 2, 2 * limit, 1 << 16, 1 << 31, 1 << 32, 1<<32 + 1, great - 1, great} {
		takesNone(t, vint.Put(count))
		takesNone(t, bytesAs(count, l[:3]))
		takesNone(t, bytesAs(count, l))
	}
	for count := range 6 {
		s := bytesAs(count, l[:3])
		if count > 3 {
			takesNone(t, s)
			continue
		}
		takes(t, s, l[:count], len(bytesOf(l[:count])))
	}
	takesNone(t, bytesAs(limit, l[:limit-1]))
	takes(t, bytesAs(limit, l), l[:limit], len(bytesAs(limit, l[:limit])))
}

// Rows that may not be put: of a Kind that is none, and of a text of more bytes than it may have.
func TestTakeOfRowsThatMayNotBe(t *testing.T) {
	good := "\x01\x01\x0e"
	for _, row := range []string{"\x01\x03", "\x01\x80", "\x01\xff", "\x02\x00\x03\x00", "\x01\x02\x21" + xs(33), "\x01\x02\xff" + xs(255), "\x01\x01\x80\x00", "\x03\x01\x02\x01\x04", "\x01\x02\x03ab", "\x01\x01\xff\xff\xff\xff\xff\xff\xff\xff\xff\x02"} {
		takesNone(t, "\x02"+row+"\x02\x00")
		takesNone(t, "\x04"+row+"\x02\x00"+good+"\x02\x00")
		takesNone(t, "\x04"+good+"\x02\x00"+row+"\x02\x00")
		takesNone(t, "\x06"+good+"\x02\x00"+row+"\x02\x00"+good+"\x02\x00")
	}
	takes(t, "\x04"+good+"\x02\x00"+good+"\x02\x00", []api.Live{born(7, 1, 0), born(7, 1, 0)}, 11)
}

// Numbers in more bytes than they need, and such that no int holds.
func TestTakeOfWrongNumbers(t *testing.T) {
	row := "\x01\x01\x0e"
	for _, wrong := range []string{"\x82\x00", "\x80\x00", "\x82\x80\x00", "\x80", "", "\xff\xff\xff\xff\xff\xff\xff\xff\xff\x02", "\x80\x80\x80\x80\x80\x80\x80\x80\x80\x80\x01"} {
		takesNone(t, wrong)
		takesNone(t, "\x02"+row+"\x02"+wrong)
		// What follows would make another number of these.
		if wrong == "" || wrong == "\x80" {
			continue
		}
		takesNone(t, wrong+row+"\x02\x00")
		takesNone(t, "\x02"+row+wrong+"\x02")
		takesNone(t, "\x02"+row+wrong+"\x02\x00")
		takesNone(t, "\x02"+row+"\x02"+wrong+"\x02")
	}
}

func TestTakeOfBytesThatAreCut(t *testing.T) {
	for seed := range 20 {
		l := stir(seed).lives(1+seed%5, 1<<14)
		s := bytesOf(l)
		for end := range len(s) {
			takesNone(t, s[:end])
			takesAsMeant(t, s[end:])
		}
	}
}

func TestTakeOfChangedBytes(t *testing.T) {
	taken, refused := 0, 0
	for seed := range 8 {
		s := bytesOf(stir(seed).lives(1+seed%4, 1<<14))
		for at := range len(s) {
			for to := range 256 {
				if takesAsMeant(t, s[:at]+string([]byte{byte(to)})+s[at+1:]) {
					taken++
				} else {
					refused++
				}
			}
		}
	}
	if taken < 1000 || refused < 1000 {
		t.Errorf("%d were taken, %d refused: the test asks too little", taken, refused)
	}
}

func TestTakeOfAnyBytes(t *testing.T) {
	taken := 0
	s := stir(5)
	for range 30000 {
		var b strings.Builder
		for range s.below(24) {
			b.WriteByte(one(s, []byte{0, 0, 1, 2, 2, 2, 3, 4, 6, 0x80, 0xff, 'a'}))
		}
		if takesAsMeant(t, b.String()) {
			taken++
		}
	}
	if taken < 1000 {
		t.Errorf("%d were taken: the test asks too little", taken)
	}
}

// What is taken is put to the very bytes that it was taken of.
func TestWhatIsTakenIsPut(t *testing.T) {
	s := stir(6)
	for range 5000 {
		b := bytesOf(s.lives(s.below(4), 3)) + "x"
		at := s.below(len(b))
		b = b[:at] + string([]byte{byte(s.below(8))}) + b[at+1:]
		if l, used, errno := Take(b); errno == api.OK {
			puts(t, l, b[:used], api.OK)
		}
	}
}

// What a store told is put, and taken, and comes again.
func TestLivesArePut(t *testing.T) {
	s := stir(7)
	for range 20 {
		p := of(t, s.lives(s.below(40), 9)...)
		goesBack(t, p.s.Lives())
		goesBack(t, p.cuts(s.below(10)))
	}
}

// "Of a store that New did not give: ErrArg, nothing, 0, nil."

func TestStoresThatNewDidNotGive(t *testing.T) {
	refused, _ := New(0)
	tooMany, _ := New(room + 1)
	var none *Store
	for _, s := range []*Store{nil, {}, new(Store), refused, tooMany, none.Copy(), new(Store).Copy()} {
		for range 2 {
			for _, e := range []int{1, 5, 0, -1, least, great} {
				for _, rows := range [][]api.Row{nil, {}, ones(1), {{{N: 1}}}, ones(room + 1)} {
					if errno := s.Add(rows, e); errno != api.ErrArg {
						t.Errorf("Add: %d", errno)
					}
				}
				for _, places := range [][]int{nil, {0}, {bound - 1}} {
					for _, l := range listed(t, places) {
						if errno := s.Delete(l, e); errno != api.ErrArg {
							t.Errorf("Delete: %d", errno)
						}
					}
				}
				isList(t, "Visible", s.Visible(e), nil)
				if l := s.Cut(e); len(l) != 0 {
					t.Errorf("Cut: %v", l)
				}
			}
			for _, places := range [][]int{nil, {0}, {bound - 1}} {
				for _, l := range listed(t, places) {
					for _, col := range []int{0, 1, -1, least, great} {
						for _, asks := range []api.Test{isNone, isSome, asked(api.TestEq, num(1)), {}} {
							got, errno := s.Scan(col, asks, l)
							if errno != api.ErrArg {
								t.Errorf("Scan: %d", errno)
							}
							isList(t, "Scan", got, nil)
						}
						if rows, errno := s.Rows([]int{col}, l); len(rows) != 0 || errno != api.ErrArg {
							t.Errorf("Rows: %v, %d", rows, errno)
						}
					}
					if rows, errno := s.Rows(nil, l); len(rows) != 0 || errno != api.ErrArg {
						t.Errorf("Rows: %v, %d", rows, errno)
					}
				}
			}
			if count, left, lives := s.Count(), s.Left(), s.Lives(); count != 0 || left != 0 || len(lives) != 0 {
				t.Errorf("Count %d, Left %d, Lives %v", count, left, lives)
			}
			if c := s.Copy(); c != nil {
				t.Errorf("Copy: %v", c)
			}
		}
	}
}

// Wr4

// all fails if the store tells anything else than it must, by each call that changes nothing.
func (p pair) all(what string) {
	p.Helper()
	p.same(what)
	rows := len(p.m.lives)
	for _, e := range []int{0, 1, 2, 3, 4, 5, 6, 7, 8, 9, top, great} {
		p.sees(e)
	}
	for _, places := range [][]int{nil, from(0, rows), {rows}} {
		for col := range 3 {
			p.scans(col, isNone, places)
			p.scans(col, asked(api.TestGe, num(1)), places)
		}
		p.reads([]int{1, 0}, places)
	}
}

// What is refused, by each call and each error, leaves all that the store tells as it was.
func TestWhatIsRefusedChangesNothing(t *testing.T) {
	lists := []pair{of(t, born(0, 1, 0), born(1, 3, 5), born(2, 2, 0)), made(t, 1), mixed(t)}
	full := made(t, 2)
	full.adds(ones(2), 4, api.OK)
	for _, p := range append(lists, full) {
		rows := p.s.Count()
		last := listOf(t, rows)
		for _, refused := range []func() api.Errno{
			func() api.Errno { return p.s.Add(ones(p.s.Left()+1), 1) },
			func() api.Errno { return p.s.Add(ones(1), 0) },
			func() api.Errno { return p.s.Add([]api.Row{nums(1), {{N: 1}}}, 1) },
			func() api.Errno { return p.s.Delete(last, 2) },
			func() api.Errno { return p.s.Delete(listOf(t, from(0, rows+1)...), 2) },
			func() api.Errno { return p.s.Delete(last, 0) },
			func() api.Errno { return p.s.Delete(listOf(t, from(0, rows)...), top+1) },
			func() api.Errno { _, errno := p.s.Scan(0, isNone, last); return errno },
			func() api.Errno { _, errno := p.s.Scan(-1, isNone, last); return errno },
			func() api.Errno { _, errno := p.s.Rows(nil, last); return errno },
			func() api.Errno { _, errno := p.s.Rows([]int{-1}, last); return errno },
		} {
			if errno := refused(); errno == api.OK {
				t.Error("it is not refused")
			}
			p.all("what is refused")
		}
	}
}

// What was cut, and what stays, are together what there was, each in order.
func TestWhatIsCutAndWhatStays(t *testing.T) {
	s := stir(8)
	for range 60 {
		p := of(t, s.lives(s.below(30), 6)...)
		ahead, e := p.s.Lives(), s.below(8)
		cut := p.s.Cut(e)
		stays := p.s.Lives()
		var together []api.Live
		for _, life := range ahead {
			from := &stays
			if life.Born <= e {
				from = &cut
			}
			if len(*from) == 0 {
				t.Fatalf("Cut(%d) of %v: there are too few", e, ahead)
			}
			together = append(together, (*from)[0])
			*from = (*from)[1:]
		}
		if !sameLives(together, ahead) || len(cut) != 0 || len(stays) != 0 {
			t.Fatalf("Cut(%d) of %v: %v together, and %v, %v", e, ahead, together, cut, stays)
		}
	}
}

// Long scripts of all calls, against the chapter's words.
func TestLongScripts(t *testing.T) {
	told := map[api.Errno]int{}
	for seed := range 60 {
		s := stir(100 + seed)
		p := made(t, one(s, []int{1, 2, 5, 12, 40}))
		for range 60 {
			e := one(s, []int{1, 2, 3, 4, 5, 6, 7, 8, 9, top, 0, top + 1})
			rows := len(p.m.lives)
			switch s.below(8) {
			case 0, 1, 2:
				l := s.rows(s.below(5))
				if len(l) > 0 && s.below(8) == 0 {
					l[s.below(len(l))] = one(s, badRows())
				}
				want := p.m.copy().add(l, e)
				told[want]++
				p.adds(l, e, want)
			case 3, 4, 5:
				places := s.places(rows + s.below(2))
				want := p.m.copy().delete(places, e)
				told[want]++
				p.deletes(places, e, want)
			case 6:
				p.cuts(one(s, []int{0, 1, 2, 3, 9}))
			case 7:
				if s.below(2) == 0 {
					p.s = p.s.Copy()
				}
			}
			p.sees(e)
			told[p.scans(s.below(6)-1, one(s, tests(num(1), txt("a"), num(0))), s.places(rows+s.below(2)))]++
			told[p.reads([]int{s.below(5), s.below(40) - 1}, s.places(rows+s.below(2)))]++
		}
		p.all("a script")
	}
	for _, errno := range []api.Errno{api.OK, api.ErrArg, api.ErrFull, api.ErrNone} {
		if told[errno] < 50 {
			t.Errorf("error %d was told %d times: the test asks too little", errno, told[errno])
		}
	}
}

// R1 to R4

// behind is a list with others in the room behind its end, and tells whether all that is as it was.
func behind[T any](l, others []T, same func(a, b []T) bool) ([]T, func() bool) {
	whole := slices.Concat(l, others)
	kept := slices.Clone(whole)
	return whole[:len(l)], func() bool { return same(whole, kept) }
}

// What is handed in, and the room behind it, stays as it was.
func TestRulesOfArguments(t *testing.T) {
	p := made(t, room)
	p.adds(ones(8), 1, api.OK)
	odd := api.Cell{N: 1}
	cells, sameCells := behind(nums(1, 2), api.Row{odd, num(9)}, func(a, b []api.Cell) bool { return slices.Equal(a, b) })
	rows, sameRowLists := behind([]api.Row{cells, nil, nums(3)}, []api.Row{{odd}, nums(4)}, sameRows)
	cols, sameCols := behind([]int{1, 0, 300}, []int{-1, 7}, func(a, b []int) bool { return slices.Equal(a, b) })
	lives, sameLists := behind([]api.Live{{Row: cells, Born: 1}, born(5, 7, 6)}, []api.Live{{}, {Row: api.Row{odd}, Born: -1}}, sameLives)
	calls := []func() api.Errno{
		func() api.Errno { return p.s.Add(rows, 2) },
		func() api.Errno { return p.s.Add(rows[:0], 2) },
		func() api.Errno { return p.s.Add([]api.Row{cells}, 3) },
		func() api.Errno { _, errno := p.s.Rows(cols, listOf(t, 0, 2)); return errno },
		func() api.Errno { _, errno := p.s.Rows(cols[:0], listOf(t, 0, 2)); return errno },
		func() api.Errno { _, errno := Put(lives); return errno },
		func() api.Errno { _, errno := Put(lives[:0]); return errno },
		func() api.Errno { return p.s.Delete(listOf(t, p.s.Count()-1), 9) },
		func() api.Errno { p.s.Cut(2); return api.OK },
	}
	for k, call := range calls {
		if errno := call(); errno != api.OK {
			t.Errorf("call %d: %d", k, errno)
		}
		if !sameCells() || !sameRowLists() || !sameCols() || !sameLists() {
			t.Errorf("call %d changed what it was given", k)
		}
	}
}

// Lists are not changed, in whichever form they are.
func TestListsStayAsTheyWere(t *testing.T) {
	for _, places := range [][]int{nil, {0, 2}, from(0, 8)} {
		for _, l := range listed(t, places) {
			p := mixed(t)
			form := l.Form()
			p.s.Delete(l, 9)
			p.s.Scan(0, isNone, l)
			p.s.Rows([]int{0}, l)
			if !slices.Equal(slices.Collect(l.Places()), places) || l.Form() != form {
				t.Errorf("the list of %d in form %d is another one", places, form)
			}
		}
	}
}

// spoil changes all cells of rows, and what lies behind their ends.
func spoil(rows []api.Row) {
	for k := range rows {
		whole := rows[k][:cap(rows[k])]
		for at := range whole {
			whole[at] = txt("spoilt")
		}
		rows[k] = append(rows[k], num(1000+k))
	}
}

// spoilLives changes all that lives have.
func spoilLives(l []api.Live) {
	for k := range l {
		spoil([]api.Row{l[k].Row})
		l[k].Row, l[k].Born, l[k].Gone = nums(-9), 77, 78
	}
	whole := l[:cap(l)]
	for k := range whole {
		whole[k] = api.Live{Row: nums(-8), Born: 79}
	}
}

// A store stays as it was when what it was given is changed afterwards.
func TestRowsAreNotKept(t *testing.T) {
	p := made(t, 20)
	rows := []api.Row{nums(1, 2, 3), {txt("a"), {}}, nil, make(api.Row, 0, 4), nums(7)}
	p.adds(rows, 3, api.OK)
	spoil(rows)
	p.all("a change of what was given")
	// A row that is given twice, and one that is a part of another.
	twice := nums(4, 5, 6)
	p.adds([]api.Row{twice, twice, twice[:1], twice[1:]}, 4, api.OK)
	twice[1] = num(50)
	p.all("a change of what was given")
	spoilLives(p.s.Cut(3))
	p.m.cut(3)
	p.all("a change of what was cut")
	cols := []int{0, 1}
	got, _ := p.s.Rows(cols, listOf(t, 0))
	cols[0] = 9
	if !slices.Equal(got[0], nums(4, 5)) {
		t.Errorf("%v", got)
	}
}

// A store stays as it was when what it answered is changed, and so does what it answered besides.
func TestAnswersAreNewMemory(t *testing.T) {
	p := mixed(t)
	c := pair{t, p.s.Copy(), p.m.copy()}
	first, second := p.s.Lives(), p.s.Lives()
	spoilLives(first)
	p.all("a change of Lives")
	c.all("a change of Lives")
	if !sameLives(second, p.m.lives) {
		t.Errorf("Lives that were told are changed: %v", second)
	}
	all := listOf(t, from(0, 8)...)
	rows, _ := p.s.Rows([]int{0, 0, 1}, all)
	again, _ := p.s.Rows([]int{0, 0, 1}, all)
	spoil(rows)
	p.all("a change of Rows")
	if want, _ := p.m.rows([]int{0, 0, 1}, from(0, 8)); !sameRows(again, want) {
		t.Errorf("Rows that were told are changed: %v", again)
	}
	cut := c.s.Cut(2)
	if want := c.m.cut(2); !sameLives(cut, want) {
		t.Errorf("Cut: %v", cut)
	}
	spoilLives(cut)
	c.all("a change of Cut")
	p.all("a change of a copy's Cut")
	c.adds(ones(2), 2, api.OK)
	p.all("an Add to a copy")
}

// No two rows of an answer share memory: one is changed, by itself and by what is put behind it, and the others stay.
func TestRowsOfAnAnswerStandByThemselves(t *testing.T) {
	p := of(t, born(0, 1, 0), born(1, 1, 0), born(2, 1, 0))
	b := bytesOf(p.m.lives)
	for what, tell := range map[string]func() []api.Row{
		"Rows": func() []api.Row {
			l, _ := p.s.Rows([]int{0}, listOf(t, 0, 1, 2))
			return l
		},
		"Lives": func() []api.Row { return rowsOf(p.s.Lives()) },
		"Cut":   func() []api.Row { return rowsOf(p.s.Copy().Cut(1)) },
		"Take": func() []api.Row {
			l, _, _ := Take(b)
			return rowsOf(l)
		},
	} {
		for k := range 3 {
			l := tell()
			want := []api.Row{nums(0), nums(1), nums(2)}
			if !sameRows(l, want) {
				t.Fatalf("%s: %v", what, l)
			}
			spoil(l[k : k+1])
			for at := range 3 {
				if at != k && !slices.Equal(l[at], want[at]) {
					t.Errorf("%s: a change of row %d changed row %d", what, k, at)
				}
			}
		}
	}
	p.all("what was told is changed")
}

// rowsOf are the rows of lives.
func rowsOf(l []api.Live) []api.Row {
	var rows []api.Row
	for _, life := range l {
		rows = append(rows, life.Row)
	}
	return rows
}

// A list that was told stays as it is while the store goes on.
func TestListsThatWereToldStay(t *testing.T) {
	p := mixed(t)
	seen := p.s.Visible(3)
	passed, _ := p.s.Scan(0, isSome, listOf(t, from(0, 8)...))
	wantSeen, wantPassed := slices.Collect(seen.Places()), slices.Collect(passed.Places())
	p.deletes([]int{0, 4}, 1, api.OK)
	p.cuts(3)
	p.adds(ones(2), 1, api.OK)
	isList(t, "Visible", seen, wantSeen)
	isList(t, "Scan", passed, wantPassed)
}

// Stores know nothing of each other, and the same calls lead to the same.
func TestStoresStandByThemselves(t *testing.T) {
	p, q := made(t, 3), made(t, 5)
	p.adds(ones(3), 1, api.OK)
	q.adds([]api.Row{nums(7, 8)}, 2, api.OK)
	p.deletes([]int{0}, 3, api.OK)
	q.same("calls on another one")
	q.cuts(2)
	p.same("calls on another one")
	for range 3 {
		p.all("the same calls again")
		q.all("the same calls again")
	}
}

func TestAnyArguments(t *testing.T) {
	numbers := []int{least, least + 1, -top, -1, 0, 1, 2, 3, 9, 255, 256, room, room + 1, limit, limit + 1, top, top + 1, great - 1, great}
	var lists []poslist.List
	for _, places := range [][]int{nil, {0}, {1, 2}, from(0, 8), {7, 8}, {bound - 1}, from(0, bound)} {
		lists = append(lists, listed(t, places)...)
	}
	for seed := range 40 {
		s := stir(200 + seed)
		p := mixed(t)
		for range 40 {
			rows := slices.Concat(s.rows(s.below(4)), []api.Row{one(s, slices.Concat(goodRows(), badRows()))})
			asks := api.Test{Op: one(s, numbers), Val: one(s, slices.Concat(oddCells(), nums(1), api.Row{{}}))}
			l, e := one(s, lists), one(s, numbers)
			p.s.Add(rows, e)
			p.s.Delete(l, e)
			p.s.Visible(e)
			p.s.Scan(one(s, numbers), asks, l)
			p.s.Rows([]int{one(s, numbers), one(s, numbers)}, l)
			p.s.Cut(one(s, numbers[:5]))
			if p.s.Count()+p.s.Left() != p.m.most || p.s.Left() < 0 {
				t.Fatalf("Count %d, Left %d of %d", p.s.Count(), p.s.Left(), p.m.most)
			}
			life := api.Live{Row: rows[len(rows)-1], Born: e, Gone: one(s, numbers)}
			want, errno := "", api.ErrArg
			if isLife(life) {
				want, errno = bytesOf([]api.Live{life}), api.OK
			}
			puts(t, []api.Live{life}, want, errno)
		}
		if _, errno := Put(p.s.Lives()); errno != api.OK {
			t.Fatalf("lives of a store may not be: %v", p.s.Lives())
		}
	}
}
