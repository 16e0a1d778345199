package test

import (
	"peristyle/api"
	"peristyle/cell"
	"slices"
	"strings"
	"testing"
)

// Te1: Check

func TestCheckOfEachOpThatHasAVal(t *testing.T) {
	for _, op := range valued() {
		for _, val := range []api.Cell{num(0), num(5), num(-1), num(least), num(great), txt(""), txt("a"), txt("\x00"), txt("\xff"), txt(xs(31)), txt(xs(32))} {
			checks(t, asked(op, val), api.OK)
		}
		for _, val := range []api.Cell{
			{}, of(0, 1, ""), of(0, 0, "a"),
			of(-1, 0, ""), of(3, 0, ""), of(least, 0, ""), of(great, 0, ""), of(-1, 5, ""), of(3, 0, "a"),
			of(1, 5, "a"), of(1, 0, "a"), of(2, 5, "a"), of(2, 5, ""), txt(xs(33)), txt(xs(34)),
		} {
			checks(t, asked(op, val), api.ErrArg)
		}
	}
}

func TestCheckOfNullAndSome(t *testing.T) {
	for _, op := range []int{api.TestNull, api.TestSome} {
		checks(t, asked(op, api.Cell{}), api.OK)
		for _, val := range []api.Cell{num(0), num(5), num(least), txt(""), txt("a"), txt(xs(33)), of(0, 1, ""), of(0, -1, ""), of(0, 0, "a"), of(0, 5, "a"), of(-1, 0, ""), of(3, 0, ""), of(least, 0, ""), of(great, 0, ""), of(1, 0, "a"), of(2, 5, "")} {
			checks(t, asked(op, val), api.ErrArg)
		}
	}
}

func TestCheckOfNoOp(t *testing.T) {
	for _, op := range noOps {
		for _, val := range allCells() {
			checks(t, asked(op, val), api.ErrArg)
		}
	}
}

// Each op, and each that is none, with each cell, against the chapter's words.
func TestCheckOfAll(t *testing.T) {
	for _, op := range append(slices.Clone(noOps), someOps...) {
		for _, val := range allCells() {
			want := api.ErrArg
			if mayTest(asked(op, val)) {
				want = api.OK
			}
			checks(t, asked(op, val), want)
		}
	}
	for _, q := range tests(values()) {
		checks(t, q, api.OK)
	}
	for _, q := range noTests() {
		checks(t, q, api.ErrArg)
	}
}

func TestCheckOfTextsOfEachLength(t *testing.T) {
	for count := range 300 {
		want := api.OK
		if count > 32 {
			want = api.ErrArg
		}
		for _, op := range valued() {
			checks(t, asked(op, txt(xs(count))), want)
			checks(t, asked(op, txt(strings.Repeat("\xff", count))), want)
		}
	}
}

// Te1: Match

// neighbours are a cell just ahead of a Val, and one just behind it.
var neighbours = []struct{ ahead, val, behind api.Cell }{
	{num(-1), num(0), num(1)},
	{num(-2), num(-1), num(0)},
	{num(4), num(5), num(6)},
	{num(least), num(least + 1), num(least + 2)},
	{num(great - 2), num(great - 1), num(great)},
	{num(great), txt(""), txt("\x00")},
	{txt(""), txt("\x00"), txt("\x00\x00")},
	{txt("a"), txt("a\x00"), txt("a\x00\x00")},
	{txt("a"), txt("aa"), txt("ab")},
	{txt("\xff"), txt("\xff\x00"), txt("\xff\x01")},
	{txt("\x7f\xff"), txt("\x80"), txt("\x80\x00")},
	{txt("\xfe\xff"), txt("\xff"), txt("\xff\x00")},
	{txt("it"), txt("it's"), txt("it's ")},
	{txt(xs(31)), txt(xs(32)), txt(xs(31) + "y")},
}

func TestMatchAroundVal(t *testing.T) {
	for _, x := range neighbours {
		for _, w := range []struct {
			op                  int
			ahead, same, behind bool
		}{
			{api.TestEq, false, true, false},
			{api.TestNe, true, false, true},
			{api.TestLt, true, false, false},
			{api.TestLe, true, true, false},
			{api.TestGt, false, false, true},
			{api.TestGe, false, true, true},
		} {
			q := asked(w.op, x.val)
			matches(t, q, x.ahead, w.ahead)
			matches(t, q, x.val, w.same)
			matches(t, q, x.behind, w.behind)
			matches(t, q, api.Cell{}, false)
		}
	}
}

// Ahead of the least int there is no number, behind the greatest one none either.
func TestMatchAtTheEndsOfNumbers(t *testing.T) {
	for _, n := range someNumbers {
		matches(t, asked(api.TestLt, num(least)), num(n), false)
		matches(t, asked(api.TestGe, num(least)), num(n), true)
		matches(t, asked(api.TestGt, num(great)), num(n), false)
		matches(t, asked(api.TestLe, num(great)), num(n), true)
		matches(t, asked(api.TestEq, num(least)), num(n), n == least)
		matches(t, asked(api.TestNe, num(great)), num(n), n != great)
	}
}

// Numbers are ahead of texts, whatever they are.
func TestMatchOfNumbersAndTexts(t *testing.T) {
	for _, n := range someNumbers {
		for _, s := range someTexts {
			for _, w := range []struct {
				op                  int
				ofNumber, ofTheText bool
			}{
				{api.TestEq, false, false},
				{api.TestNe, true, true},
				{api.TestLt, true, false},
				{api.TestLe, true, false},
				{api.TestGt, false, true},
				{api.TestGe, false, true},
			} {
				matches(t, asked(w.op, txt(s)), num(n), w.ofNumber)
				matches(t, asked(w.op, num(n)), txt(s), w.ofTheText)
			}
		}
	}
}

func TestMatchOfNullAndSome(t *testing.T) {
	matches(t, isNone, api.Cell{}, true)
	matches(t, isSome, api.Cell{}, false)
	for _, c := range values() {
		matches(t, isNone, c, false)
		matches(t, isSome, c, true)
	}
}

func TestMatchOfANull(t *testing.T) {
	for _, op := range valued() {
		for _, val := range values() {
			matches(t, asked(op, val), api.Cell{}, false)
		}
	}
}

// A cell that may not be is a null by its Kind, and stands by layer 6's order.
func TestMatchOfCellsThatMayNotBe(t *testing.T) {
	for _, x := range []struct {
		c              api.Cell
		null           bool
		number5, textA int // where it stands to these
	}{
		{of(0, 1, ""), true, 0, 0},
		{of(0, 0, "a"), true, 0, 0},
		{of(0, 5, "a"), true, 0, 0},
		{of(-1, 5, ""), false, -1, -1},
		{of(least, 5, "a"), false, -1, -1},
		{of(1, 5, "a"), false, 1, -1},
		{of(1, 4, "a"), false, -1, -1},
		{of(2, 0, xs(33)), false, 1, 1},
		{of(2, -5, "a"), false, 1, -1},
		{of(2, 5, "a"), false, 1, 1},
		{of(3, 5, ""), false, 1, 1},
		{of(great, 0, "a"), false, 1, 1},
	} {
		matches(t, isNone, x.c, x.null)
		matches(t, isSome, x.c, !x.null)
		for _, y := range []struct {
			val    api.Cell
			stands int
		}{{num(5), x.number5}, {txt("a"), x.textA}} {
			matches(t, asked(api.TestEq, y.val), x.c, false)
			matches(t, asked(api.TestNe, y.val), x.c, !x.null)
			matches(t, asked(api.TestLt, y.val), x.c, y.stands < 0)
			matches(t, asked(api.TestLe, y.val), x.c, y.stands < 0)
			matches(t, asked(api.TestGt, y.val), x.c, y.stands > 0)
			matches(t, asked(api.TestGe, y.val), x.c, y.stands > 0)
		}
	}
}

// Of a test that may not be nothing passes, not even the cells that its Op, or its Val, would let pass otherwise.
func TestMatchOfTestsThatMayNotBe(t *testing.T) {
	for _, q := range noTests() {
		for _, c := range []api.Cell{q.Val, {}, num(4), num(5), num(6), num(least), num(great), txt(""), txt("a"), txt("b"), txt(xs(32)), txt(xs(33)), of(-1, 0, ""), of(3, 0, ""), of(1, 5, "a"), of(0, 1, "")} {
			matches(t, q, c, false)
		}
	}
}

func TestMatchOfAll(t *testing.T) {
	for _, q := range tests(values()) {
		for _, c := range allCells() {
			matches(t, q, c, passes(q, c))
		}
	}
}

// What passes is told by layer 6's Compare.
func TestMatchByCompare(t *testing.T) {
	for _, val := range values() {
		for _, c := range append(values(), noCells()...) {
			if c.Kind == api.Null {
				continue
			}
			stands := cell.Compare(c, val)
			matches(t, asked(api.TestEq, val), c, stands == 0)
			matches(t, asked(api.TestNe, val), c, stands != 0)
			matches(t, asked(api.TestLt, val), c, stands < 0)
			matches(t, asked(api.TestLe, val), c, stands <= 0)
			matches(t, asked(api.TestGt, val), c, stands > 0)
			matches(t, asked(api.TestGe, val), c, stands >= 0)
		}
	}
}

// Te1: Zone

// The chapter's example.
func TestExample(t *testing.T) {
	z := between(5, 9, 1, 3)
	zones(t, []api.Cell{num(5), {}, num(9)}, z)
	tells(t, asked(api.TestLt, num(5)), z, true, false)
}

func TestZone(t *testing.T) {
	for _, x := range []struct {
		l    []api.Cell
		want api.Zone
	}{
		{nil, api.Zone{}},
		{[]api.Cell{}, api.Zone{}},
		{nulls(1), api.Zone{Nulls: 1, Count: 1}},
		{nulls(3), api.Zone{Nulls: 3, Count: 3}},
		{nums(7), between(7, 7, 0, 1)},
		{nums(0), between(0, 0, 0, 1)},
		{nums(-1), between(-1, -1, 0, 1)},
		{txts(""), api.Zone{Min: txt(""), Max: txt(""), Count: 1}},
		{nums(7, 7, 7), between(7, 7, 0, 3)},
		{txts("a", "a"), api.Zone{Min: txt("a"), Max: txt("a"), Count: 2}},
		{nums(1, 2, 3), between(1, 3, 0, 3)},
		{nums(3, 2, 1), between(1, 3, 0, 3)},
		{nums(2, 3, 1, 2), between(1, 3, 0, 4)},
		{nums(2, 1, 3), between(1, 3, 0, 3)},
		{nums(-5, -9), between(-9, -5, 0, 2)},
		{nums(0, least, great, 1), between(least, great, 0, 4)},
		{nums(great, least), between(least, great, 0, 2)},
		{nums(least), between(least, least, 0, 1)},
		{txts("b", "", "\xff", "a"), api.Zone{Min: txt(""), Max: txt("\xff"), Count: 4}},
		{txts("aa", "a", "ab", "a\x00"), api.Zone{Min: txt("a"), Max: txt("ab"), Count: 4}},
		{[]api.Cell{{}, {}, num(4), num(2)}, between(2, 4, 2, 4)},
		{[]api.Cell{num(4), num(2), {}, {}}, between(2, 4, 2, 4)},
		{[]api.Cell{num(-4), {}, num(-2), {}, {}, num(-3)}, between(-4, -2, 3, 6)},
		{[]api.Cell{{}, txt("b"), {}, txt("a"), {}}, api.Zone{Min: txt("a"), Max: txt("b"), Nulls: 3, Count: 5}},
		{[]api.Cell{txt(""), num(great), num(3)}, api.Zone{Min: num(3), Max: txt(""), Count: 3}},
		{[]api.Cell{num(9), txt("a"), {}, num(3), txt("b")}, api.Zone{Min: num(3), Max: txt("b"), Nulls: 1, Count: 5}},
	} {
		zones(t, x.l, x.want)
		zones(t, x.l, zone(x.l))
	}
}

// Cells that may not be are nulls by their Kind, and else stand by layer 6's order.
func TestZoneOfCellsThatMayNotBe(t *testing.T) {
	zones(t, []api.Cell{of(0, 5, ""), of(0, 0, "a"), of(0, -1, "")}, api.Zone{Nulls: 3, Count: 3})
	zones(t, []api.Cell{of(0, 5, ""), num(4)}, between(4, 4, 1, 2))
	zones(t, []api.Cell{of(3, 0, ""), num(4), of(-1, 9, "")}, api.Zone{Min: of(-1, 9, ""), Max: of(3, 0, ""), Count: 3})
	zones(t, []api.Cell{of(1, 4, "a"), num(4)}, api.Zone{Min: num(4), Max: of(1, 4, "a"), Count: 2})
	s := stir(3)
	for range 300 {
		l := s.cells(noCells(), s.below(6), 4)
		zones(t, l, zone(l))
	}
}

// The same cells in whatever order.
func TestZoneInAnyOrder(t *testing.T) {
	s := stir(4)
	for range 500 {
		l := s.cells(values(), s.below(40), 1+s.below(6))
		zones(t, l, zone(l))
		zones(t, s.shuffled(l), zone(l))
		slices.SortFunc(l, order)
		zones(t, l, zone(l))
		slices.Reverse(l)
		zones(t, l, zone(l))
	}
}

// Where the least, the greatest, and the null stand, in all orders.
func TestZoneOfFourInAllOrders(t *testing.T) {
	l := []api.Cell{num(-7), num(0), {}, txt("a")}
	want := api.Zone{Min: num(-7), Max: txt("a"), Nulls: 1, Count: 4}
	for a := range 4 {
		for b := range 4 {
			for c := range 4 {
				if d := 6 - a - b - c; a != b && a != c && b != c && d != a {
					zones(t, []api.Cell{l[a], l[b], l[c], l[d]}, want)
				}
			}
		}
	}
}

func TestZoneOfManyCells(t *testing.T) {
	const count = 1 << 17
	l := nulls(count)
	zones(t, l, api.Zone{Nulls: count, Count: count})
	l[count-1] = num(3)
	zones(t, l, api.Zone{Min: num(3), Max: num(3), Nulls: count - 1, Count: count})
	for k := range l {
		l[k] = num(k - 5)
	}
	zones(t, l, api.Zone{Min: num(-5), Max: num(count - 6), Count: count})
}

// Te1: Merge

// parts are lists of cells: none, nulls alone, one cell, the same ones, with nulls first, last and among others, numbers, texts, and both.
func parts() [][]api.Cell {
	return [][]api.Cell{
		nil,
		nulls(1),
		nulls(3),
		nums(5),
		nums(0),
		nums(-1),
		txts(""),
		txts("a"),
		nums(5, 5, 5),
		txts("a", "a"),
		{{}, num(5)},
		{num(-5), {}},
		{num(5), {}, num(9)},
		{{}, {}, num(4), num(2)},
		nums(1, 2, 3),
		nums(3, 2, 1),
		nums(6, 8),
		nums(-9, -6),
		nums(least),
		nums(great),
		nums(least, great),
		{num(great), {}, num(least)},
		txts("b", "a", "c"),
		{txt("aa"), {}, txt("a")},
		txts("\x00", "\xff"),
		{num(3), txt("a")},
		{txt(""), {}, num(9)},
		txts(xs(32)),
	}
}

func TestMerge(t *testing.T) {
	z := between(5, 9, 1, 4)
	none, alone := api.Zone{}, api.Zone{Nulls: 2, Count: 2}
	for _, x := range []struct{ a, b, want api.Zone }{
		{none, none, none},
		{none, z, z},
		{none, alone, alone},
		{alone, alone, api.Zone{Nulls: 4, Count: 4}},
		{alone, z, between(5, 9, 3, 6)},
		{z, z, between(5, 9, 2, 8)},
		{z, between(1, 3, 0, 2), between(1, 9, 1, 6)},
		{z, between(10, 30, 0, 2), between(5, 30, 1, 6)},
		{z, between(6, 8, 0, 2), between(5, 9, 1, 6)},
		{z, between(1, 30, 0, 2), between(1, 30, 1, 6)},
		{z, between(5, 30, 3, 5), between(5, 30, 4, 9)},
		{z, between(1, 9, 3, 5), between(1, 9, 4, 9)},
		{z, api.Zone{Min: txt(""), Max: txt("a"), Count: 2}, api.Zone{Min: num(5), Max: txt("a"), Nulls: 1, Count: 6}},
		{alone, between(-5, -5, 0, 1), between(-5, -5, 2, 3)},
	} {
		merges(t, x.a, x.b, x.want)
		merges(t, x.b, x.a, x.want)
	}
}

// Two zones are held against the zone of all their cells, in both orders; three of them, in either way.
func TestMergeOfParts(t *testing.T) {
	for _, a := range parts() {
		for _, b := range parts() {
			want := zone(slices.Concat(a, b))
			merges(t, Zone(a), Zone(b), want)
			merges(t, zone(b), zone(a), want)
			zones(t, slices.Concat(a, b), want)
			for _, c := range parts() {
				want := zone(slices.Concat(a, b, c))
				merges(t, Merge(zone(a), zone(b)), zone(c), want)
				merges(t, zone(a), Merge(zone(b), zone(c)), want)
				merges(t, Merge(zone(c), zone(a)), zone(b), want)
			}
		}
	}
}

func TestMergeOfManyCells(t *testing.T) {
	s := stir(5)
	for range 500 {
		l := s.cells(values(), s.below(30), 1+s.below(8))
		for cut := range len(l) + 1 {
			merges(t, Zone(l[:cut]), Zone(l[cut:]), zone(l))
		}
	}
}

// Te2: None and All

// told is a zone, a Val, and what None and All tell of it, op by op from TestEq to TestGe.
type told struct {
	val       api.Cell
	none, all string // 1, where it is true
}

// tellsEach fails if None and All tell otherwise of each op.
func tellsEach(t *testing.T, z api.Zone, l []told) {
	t.Helper()
	for _, x := range l {
		for k, op := range valued() {
			tells(t, asked(op, x.val), z, x.none[k] == '1', x.all[k] == '1')
		}
	}
}

// The ops stand in the order = != < <= > >=.
func TestNoneAndAll(t *testing.T) {
	tellsEach(t, between(5, 9, 0, 4), []told{
		{num(4), "101100", "010011"},
		{num(5), "001000", "000001"},
		{num(6), "000000", "000000"},
		{num(8), "000000", "000000"},
		{num(9), "000010", "000100"},
		{num(10), "100011", "011100"},
		{num(least), "101100", "010011"},
		{num(great), "100011", "011100"},
		{txt(""), "100011", "011100"},
		{txt("5"), "100011", "011100"},
	})
}

func TestNoneAndAllOfTexts(t *testing.T) {
	tellsEach(t, api.Zone{Min: txt("b"), Max: txt("bb"), Count: 2}, []told{
		{txt(""), "101100", "010011"},
		{txt("a\xff"), "101100", "010011"},
		{txt("b"), "001000", "000001"},
		{txt("b\x00"), "000000", "000000"},
		{txt("ba"), "000000", "000000"},
		{txt("bb"), "000010", "000100"},
		{txt("bb\x00"), "100011", "011100"},
		{txt("\xff"), "100011", "011100"},
		{num(5), "101100", "010011"},
		{num(great), "101100", "010011"},
	})
}

// Numbers and texts in one zone: the least number, and the greatest text.
func TestNoneAndAllOfNumbersAndTexts(t *testing.T) {
	tellsEach(t, api.Zone{Min: num(5), Max: txt("b"), Count: 2}, []told{
		{num(4), "101100", "010011"},
		{num(5), "001000", "000001"},
		{num(great), "000000", "000000"},
		{txt(""), "000000", "000000"},
		{txt("b"), "000010", "000100"},
		{txt("c"), "100011", "011100"},
	})
}

func TestNoneAndAllOfSameCells(t *testing.T) {
	tellsEach(t, between(5, 5, 0, 3), []told{
		{num(4), "101100", "010011"},
		{num(5), "011010", "100101"},
		{num(6), "100011", "011100"},
		{txt("a"), "100011", "011100"},
	})
	tellsEach(t, api.Zone{Min: txt("a"), Max: txt("a"), Count: 1}, []told{
		{num(5), "101100", "010011"},
		{txt(""), "101100", "010011"},
		{txt("a"), "011010", "100101"},
		{txt("a\x00"), "100011", "011100"},
	})
}

// With a null not all pass, and None is told by the others alone.
func TestNoneAndAllWithNulls(t *testing.T) {
	tellsEach(t, between(5, 9, 1, 4), []told{
		{num(4), "101100", "000000"},
		{num(5), "001000", "000000"},
		{num(7), "000000", "000000"},
		{num(9), "000010", "000000"},
		{num(10), "100011", "000000"},
		{txt("a"), "100011", "000000"},
	})
	tellsEach(t, between(5, 5, 3, 4), []told{
		{num(4), "101100", "000000"},
		{num(5), "011010", "000000"},
		{num(6), "100011", "000000"},
	})
	tellsEach(t, api.Zone{Min: txt("a"), Max: txt("b"), Nulls: 7, Count: 9}, []told{
		{num(4), "101100", "000000"},
		{txt("a"), "001000", "000000"},
		{txt("aa"), "000000", "000000"},
		{txt("b"), "000010", "000000"},
		{txt("c"), "100011", "000000"},
	})
}

func TestNoneAndAllAtTheEndsOfNumbers(t *testing.T) {
	tellsEach(t, between(least, great, 0, 2), []told{
		{num(least), "001000", "000001"},
		{num(0), "000000", "000000"},
		{num(great), "000010", "000100"},
		{txt(""), "100011", "011100"},
	})
	tellsEach(t, between(least, least, 0, 2), []told{{num(least), "011010", "100101"}, {num(least + 1), "100011", "011100"}, {num(great), "100011", "011100"}})
	tellsEach(t, between(great, great, 0, 2), []told{{num(great), "011010", "100101"}, {num(great - 1), "101100", "010011"}, {num(least), "101100", "010011"}})
}

func TestNoneAndAllOfNullsAlone(t *testing.T) {
	for _, count := range []int{1, 2, 64, great} {
		z := api.Zone{Nulls: count, Count: count}
		for _, op := range valued() {
			for _, val := range values() {
				tells(t, asked(op, val), z, true, false)
			}
		}
		tells(t, isNone, z, false, true)
		tells(t, isSome, z, true, false)
	}
}

// Of no cells none passes, and not all: there are none.
func TestNoneAndAllOfNoCells(t *testing.T) {
	for _, q := range tests(values()) {
		tells(t, q, api.Zone{}, true, false)
		tells(t, q, Zone(nil), true, false)
	}
}

func TestNoneAndAllOfNullAndSome(t *testing.T) {
	for _, x := range []struct {
		z                                    api.Zone
		noneNull, allNull, noneSome, allSome bool
	}{
		{api.Zone{}, true, false, true, false},
		{api.Zone{Nulls: 1, Count: 1}, false, true, true, false},
		{api.Zone{Nulls: 3, Count: 3}, false, true, true, false},
		{between(5, 9, 0, 4), true, false, false, true},
		{between(5, 5, 0, 1), true, false, false, true},
		{between(0, 0, 0, 1), true, false, false, true},
		{between(5, 9, 1, 4), false, false, false, false},
		{between(5, 5, 3, 4), false, false, false, false},
		{between(least, great, 1, 3), false, false, false, false},
		{api.Zone{Min: txt(""), Max: txt(""), Count: 1}, true, false, false, true},
		{api.Zone{Min: txt(""), Max: txt("a"), Nulls: 1, Count: 3}, false, false, false, false},
		{api.Zone{Min: num(5), Max: txt("a"), Count: 2}, true, false, false, true},
	} {
		tells(t, isNone, x.z, x.noneNull, x.allNull)
		tells(t, isSome, x.z, x.noneSome, x.allSome)
	}
}

// By a test that may not be nothing is told, not even of no cells.
func TestNoneAndAllOfTestsThatMayNotBe(t *testing.T) {
	var made []api.Zone
	for _, l := range parts() {
		made = append(made, zone(l))
	}
	for _, q := range noTests() {
		for _, z := range made {
			tells(t, q, z, false, false)
		}
		tells(t, q, zone([]api.Cell{q.Val}), false, false)
	}
}

func TestNoneAndAllOfAll(t *testing.T) {
	for _, l := range parts() {
		for _, q := range tests(values()) {
			z := zone(l)
			tells(t, q, z, tellsNone(q, z), tellsAll(q, z))
		}
	}
}

// Te3: Bounds

func TestBounds(t *testing.T) {
	l := []int{1, 5, 8, 12}
	for _, x := range []struct {
		val                int
		eq, lt, le, gt, ge [2]int
	}{
		{-7, [2]int{}, [2]int{}, [2]int{}, [2]int{0, 4}, [2]int{0, 4}},
		{0, [2]int{}, [2]int{}, [2]int{}, [2]int{0, 4}, [2]int{0, 4}},
		{1, [2]int{0, 1}, [2]int{}, [2]int{0, 1}, [2]int{1, 4}, [2]int{0, 4}},
		{2, [2]int{}, [2]int{0, 1}, [2]int{0, 1}, [2]int{1, 4}, [2]int{1, 4}},
		{5, [2]int{1, 2}, [2]int{0, 1}, [2]int{0, 2}, [2]int{2, 4}, [2]int{1, 4}},
		{7, [2]int{}, [2]int{0, 2}, [2]int{0, 2}, [2]int{2, 4}, [2]int{2, 4}},
		{8, [2]int{2, 3}, [2]int{0, 2}, [2]int{0, 3}, [2]int{3, 4}, [2]int{2, 4}},
		{11, [2]int{}, [2]int{0, 3}, [2]int{0, 3}, [2]int{3, 4}, [2]int{3, 4}},
		{12, [2]int{3, 4}, [2]int{0, 3}, [2]int{0, 4}, [2]int{}, [2]int{3, 4}},
		{13, [2]int{}, [2]int{0, 4}, [2]int{0, 4}, [2]int{}, [2]int{}},
		{least, [2]int{}, [2]int{}, [2]int{}, [2]int{0, 4}, [2]int{0, 4}},
		{great, [2]int{}, [2]int{0, 4}, [2]int{0, 4}, [2]int{}, [2]int{}},
	} {
		val := num(x.val)
		bounds(t, asked(api.TestEq, val), l, x.eq[0], x.eq[1])
		bounds(t, asked(api.TestLt, val), l, x.lt[0], x.lt[1])
		bounds(t, asked(api.TestLe, val), l, x.le[0], x.le[1])
		bounds(t, asked(api.TestGt, val), l, x.gt[0], x.gt[1])
		bounds(t, asked(api.TestGe, val), l, x.ge[0], x.ge[1])
		bounds(t, asked(api.TestNe, val), l, 0, 0)
	}
	bounds(t, isSome, l, 0, 4)
	bounds(t, isNone, l, 0, 0)
}

func TestBoundsOfNoNumbers(t *testing.T) {
	for _, q := range tests(values()) {
		bounds(t, q, nil, 0, 0)
		bounds(t, q, []int{}, 0, 0)
	}
}

func TestBoundsOfOneNumber(t *testing.T) {
	for _, n := range []int{5, 0, -1, least, great} {
		for _, q := range tests(values()) {
			to := 0
			if q.Op != api.TestNe && passes(q, num(n)) {
				to = 1
			}
			bounds(t, q, []int{n}, 0, to)
		}
	}
}

func TestBoundsAtTheEndsOfNumbers(t *testing.T) {
	l := []int{least, -1, 0, great}
	bounds(t, asked(api.TestEq, num(least)), l, 0, 1)
	bounds(t, asked(api.TestLt, num(least)), l, 0, 0)
	bounds(t, asked(api.TestLe, num(least)), l, 0, 1)
	bounds(t, asked(api.TestGt, num(least)), l, 1, 4)
	bounds(t, asked(api.TestGe, num(least)), l, 0, 4)
	bounds(t, asked(api.TestEq, num(great)), l, 3, 4)
	bounds(t, asked(api.TestLt, num(great)), l, 0, 3)
	bounds(t, asked(api.TestLe, num(great)), l, 0, 4)
	bounds(t, asked(api.TestGt, num(great)), l, 0, 0)
	bounds(t, asked(api.TestGe, num(great)), l, 3, 4)
}

// All numbers are ahead of a text.
func TestBoundsOfATextVal(t *testing.T) {
	for _, l := range [][]int{{7}, {1, 5, 8}, {least, great}} {
		for _, s := range []string{"", "5", "a", "\xff", xs(32)} {
			bounds(t, asked(api.TestEq, txt(s)), l, 0, 0)
			bounds(t, asked(api.TestNe, txt(s)), l, 0, 0)
			bounds(t, asked(api.TestLt, txt(s)), l, 0, len(l))
			bounds(t, asked(api.TestLe, txt(s)), l, 0, len(l))
			bounds(t, asked(api.TestGt, txt(s)), l, 0, 0)
			bounds(t, asked(api.TestGe, txt(s)), l, 0, 0)
		}
	}
}

func TestBoundsOfNe(t *testing.T) {
	for _, val := range values() {
		for _, l := range [][]int{nil, {5}, {1, 5, 8}, {least, great}, someNumbers} {
			bounds(t, asked(api.TestNe, val), l, 0, 0)
		}
	}
}

func TestBoundsOfNullAndSome(t *testing.T) {
	for _, l := range [][]int{nil, {5}, {1, 5, 8}, {least, great}, someNumbers} {
		bounds(t, isNone, l, 0, 0)
		bounds(t, isSome, l, 0, len(l))
	}
}

func TestBoundsOfTestsThatMayNotBe(t *testing.T) {
	for _, q := range noTests() {
		for _, l := range [][]int{nil, {5}, {q.Val.N}, {1, 5, 8}, {least, great}, someNumbers} {
			bounds(t, q, l, 0, 0)
		}
	}
}

// Lists of each count up to some hundreds, with Val at each number, just ahead, just behind, and beyond both ends.
func TestBoundsByMatch(t *testing.T) {
	for _, count := range []int{1, 2, 3, 4, 5, 7, 8, 9, 63, 64, 65, 400} {
		l := make([]int, count)
		for k := range l {
			l[k] = 3*k - count
		}
		for val := l[0] - 2; val <= l[count-1]+2; val++ {
			for _, q := range tests(nums(val)) {
				if q.Op != api.TestNe {
					boundsByMatch(t, q, l)
				}
			}
		}
	}
}

func TestBoundsOfManyLists(t *testing.T) {
	s := stir(6)
	for range 400 {
		var l []int
		for range s.below(300) {
			l = append(l, s.below(1000)-500)
		}
		for range s.below(4) {
			l = append(l, someNumbers[s.below(len(someNumbers))])
		}
		slices.Sort(l)
		l = slices.Compact(l)
		for _, q := range tests(slices.Concat(nums(s.below(1000)-500, s.below(1000)-500), values()[s.below(30):][:2])) {
			if q.Op != api.TestNe {
				boundsByMatch(t, q, l)
			}
		}
	}
}

func TestBoundsOfAMillionNumbers(t *testing.T) {
	l := make([]int, 1000000)
	for k := range l {
		l[k] = 2 * k
	}
	for _, k := range []int{0, 1, 499999, 500000, 999998, 999999} {
		bounds(t, asked(api.TestEq, num(2*k)), l, k, k+1)
		bounds(t, asked(api.TestEq, num(2*k+1)), l, 0, 0)
		bounds(t, asked(api.TestLe, num(2*k)), l, 0, k+1)
		bounds(t, asked(api.TestLt, num(2*k)), l, 0, k)
		bounds(t, asked(api.TestGe, num(2*k)), l, k, len(l))
	}
}

// Te4

// isTold fails if None tells true of the zone of cells of which one passes, or All of those of which one does not.
func isTold(t *testing.T, q api.Test, l []api.Cell) {
	t.Helper()
	z := Zone(l)
	count := 0
	for _, c := range l {
		if Match(q, c) {
			count++
		}
	}
	if None(q, z) && count > 0 {
		t.Errorf("None(%v) of %v: true, but %d pass", q, l, count)
	}
	if All(q, z) && count < len(l) {
		t.Errorf("All(%v) of %v: true, but of %d cells %d pass", q, l, len(l), count)
	}
}

func TestZonesTellWhatHolds(t *testing.T) {
	for _, l := range parts() {
		for _, q := range tests(values()) {
			isTold(t, q, l)
		}
	}
	s := stir(7)
	few := slices.Concat(nums(-2, -1, 0, 1, 2, 3), txts("", "a", "b"))
	for range 3000 {
		l := s.cells(few, s.below(5), 1+s.below(5))
		for _, q := range tests(few) {
			isTold(t, q, l)
		}
	}
}

// Of one value, so often, a zone tells all there is to tell.
func TestZonesOfSameCellsTellAll(t *testing.T) {
	for _, c := range values() {
		z := Zone([]api.Cell{c, c})
		for _, q := range tests(values()) {
			tells(t, q, z, !Match(q, c), Match(q, c))
		}
	}
}

func TestOpposites(t *testing.T) {
	for _, val := range values() {
		for _, c := range allCells() {
			if c.Kind == api.Null {
				continue
			}
			for _, ops := range opposites {
				a, b := asked(ops[0], val), asked(ops[1], val)
				if ops[0] == api.TestNull {
					a, b = isNone, isSome
				}
				if Match(a, c) == Match(b, c) {
					t.Errorf("%v: %t of both %v and %v", c, Match(a, c), a, b)
				}
			}
		}
	}
}

// Of zones without nulls: what no cell passes, all pass the opposite of.
func TestOppositesOfZones(t *testing.T) {
	for _, l := range parts() {
		z := Zone(l)
		if z.Nulls > 0 || z.Count == 0 {
			continue
		}
		for _, val := range values() {
			for _, ops := range opposites[:3] {
				a, b := asked(ops[0], val), asked(ops[1], val)
				if None(a, z) != All(b, z) || All(a, z) != None(b, z) {
					t.Errorf("%v, %v: None %t, %t, All %t, %t", z, val, None(a, z), None(b, z), All(a, z), All(b, z))
				}
			}
		}
	}
}

// R1 to R4

// No zone, and no list, however odd, makes a call panic.
func TestAnyArguments(t *testing.T) {
	counts := []int{0, 1, -1, 2, least, great}
	var odd []api.Zone
	for _, c := range []api.Cell{{}, num(5), txt("a"), of(-1, 5, "a"), of(3, 0, ""), of(0, 5, ""), txt(xs(33))} {
		for _, d := range []api.Cell{{}, num(4), txt(""), of(least, 0, ""), of(great, 0, "a")} {
			for _, nulls := range counts {
				for _, count := range counts {
					odd = append(odd, api.Zone{Min: c, Max: d, Nulls: nulls, Count: count})
				}
			}
		}
	}
	some := append(tests([]api.Cell{num(5), txt("a")}), asked(0, num(5)), asked(api.TestEq, api.Cell{}), asked(api.TestNull, num(1)))
	for k, z := range odd {
		Merge(z, odd[len(odd)-1-k])
		Merge(z, api.Zone{})
		for _, q := range some {
			None(q, z)
			All(q, z)
		}
	}
	for _, l := range [][]int{{3, 2, 1}, {5, 5, 5}, {great, least}, {5, 1, 5, 9, 5}, {least, least}} {
		for _, q := range some {
			if from, to := Bounds(q, l); from < 0 || from > to || to > len(l) {
				t.Errorf("Bounds(%v, %v): %d, %d", q, l, from, to)
			}
		}
	}
}

// A list stays as it was, and so does the room behind its end, which is not read.
func TestArgumentsStay(t *testing.T) {
	cells := []api.Cell{num(5), {}, num(9), num(7), num(least), txt("\xff"), {}, num(great)}
	before := slices.Clone(cells)
	zones(t, cells[:4], between(5, 9, 1, 4))
	zones(t, cells[:4:4], between(5, 9, 1, 4))
	zones(t, cells[:0], api.Zone{})
	if !slices.Equal(cells, before) {
		t.Errorf("%v, not %v", cells, before)
	}
	numbers := []int{1, 5, 8, 5, 6, 7}
	kept := slices.Clone(numbers)
	for _, q := range tests(nums(0, 1, 5, 6, 8, 9)) {
		whole, cut := numbers[:3], numbers[:3:3]
		from, to := Bounds(q, whole)
		bounds(t, q, cut, from, to)
		bounds(t, q, numbers[:0], 0, 0)
	}
	if !slices.Equal(numbers, kept) {
		t.Errorf("%v, not %v", numbers, kept)
	}
}

// What is asked again is answered alike, whatever was asked between.
func TestAskedAgain(t *testing.T) {
	s := stir(8)
	for range 200 {
		l := s.cells(values(), 1+s.below(10), 4)
		q := asked(1+s.below(6), values()[s.below(len(values()))])
		first := Zone(l)
		none, all, match := None(q, first), All(q, first), Match(q, l[0])
		Zone(s.cells(noCells(), 9, 3))
		Bounds(q, []int{1, 2, 3})
		Check(asked(great, num(1)))
		zones(t, l, first)
		tells(t, q, first, none, all)
		matches(t, q, l[0], match)
	}
}
