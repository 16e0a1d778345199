package sift

import (
	"math/big"
	"peristyle/api"
	"peristyle/block"
	"peristyle/check"
	"peristyle/poslist"
	"slices"
	"strings"
	"testing"
)

// The cells that are looked through.

// edgeNumbers and edgeTexts rise.
var (
	edgeNumbers = []int{least, least + 1, -1<<32 - 1, -1 << 32, -300, -2, -1, 0, 1, 2, 7, 300, 1<<32 - 1, 1 << 32, great - 1, great}
	edgeTexts   = []string{"", "\x00", "\x00\x00", "'", "7", "a", "a\x00", "aa", "ab", "abc", "b", "null", xs(31), xs(32), xs(31) + "y", "\x7f", "\x80", "\xff", "\xff\x00", strings.Repeat("\xff", 32)}
)

// edges are the values of a kind at its edges, rising.
func edges(kind int) []api.Cell {
	if kind == api.Int {
		return nums(edgeNumbers...)
	}
	return txts(edgeTexts...)
}

// spaced are so many numbers, from one on, so far from each other.
func spaced(first, step, count int) []api.Cell {
	var l []api.Cell
	for k := range count {
		l = append(l, num(first+k*step))
	}
	return l
}

// apart are so many texts, falling, each another one, of up to 32 bytes.
func apart(count int) []api.Cell {
	var l []api.Cell
	for k := range count {
		l = append(l, txt(strings.Repeat(string([]byte{byte(250 - 3*k)}), 1+k%32)))
	}
	return l
}

// inRuns are values, each so often as a number tells, one behind the other.
func inRuns(values []api.Cell, often ...int) []api.Cell {
	var l []api.Cell
	for k, count := range often {
		l = append(l, slices.Repeat(values[k%len(values):][:1], count)...)
	}
	return l
}

// lists are cells of a kind without nulls: one alone, just 64, all the same, all different, evenly spaced, in runs.
func lists(kind int) [][]api.Cell {
	var all [][]api.Cell
	for _, c := range edges(kind) {
		all = append(all, []api.Cell{c})
	}
	some := edges(kind)
	for k := range 4 {
		few := []api.Cell{some[k*5%len(some)], some[len(some)-1-k*3], some[len(some)/2]}
		all = append(all,
			slices.Repeat(few[:1], most),
			slices.Repeat(few[:2], most/2),
			inRuns(few, 8, 8, 8, 8, 8, 8, 8, 8),
			inRuns(few, 1, 20, 3, 1, 1, 7, 30, 1),
			inRuns(few, 3, 2, 1))
	}
	s := stir(kind)
	all = append(all, some, s.cells(some, most, 1<<30, 1), s.cells(some, 9, 1<<30, 1), s.cells(some, 40, 1<<30, 4))
	if kind == api.Text {
		return append(all, apart(most), apart(8), txts("abc", "ab", "a", "", "a", "abc"))
	}
	return append(all, spaced(-310, 10, most), spaced(310, -10, most), spaced(0, 1, most), spaced(-1, -1, 9), spaced(least, 1<<58, most), spaced(great, -1<<58, most))
}

// masks tell which of so many cells are nulls: none, the first, the last, both, some among others, all but one, all.
var masks = []func(k, count int) bool{
	func(k, count int) bool { return false },
	func(k, count int) bool { return k == 0 },
	func(k, count int) bool { return k == count-1 },
	func(k, count int) bool { return k == 0 || k == count-1 },
	func(k, count int) bool { return k == count/2 },
	func(k, count int) bool { return k%2 == 0 },
	func(k, count int) bool { return k%3 == 1 },
	func(k, count int) bool { return k < 9 },
	func(k, count int) bool { return k > count-10 },
	func(k, count int) bool { return k/5%2 == 1 },
	func(k, count int) bool { return k != 0 },
	func(k, count int) bool { return k != count-1 },
	func(k, count int) bool { return k != count/2 },
	func(k, count int) bool { return true },
}

// masked are cells of which some are nulls.
func masked(l []api.Cell, isNull func(k, count int) bool) []api.Cell {
	l = slices.Clone(l)
	for k := range l {
		if isNull(k, len(l)) {
			l[k] = api.Cell{}
		}
	}
	return l
}

// withNulls are cells with nulls of all manners, each list once.
func withNulls(l []api.Cell) [][]api.Cell {
	var all [][]api.Cell
	for _, isNull := range masks {
		made := masked(l, isNull)
		if !slices.ContainsFunc(all, func(other []api.Cell) bool { return slices.Equal(other, made) }) {
			all = append(all, made)
		}
	}
	return all
}

// around are cells just ahead of one, the same, and just behind.
func around(c api.Cell) []api.Cell {
	if c.Kind == api.Int {
		return nums(max(c.N, least+1)-1, c.N, min(c.N, great-1)+1)
	}
	l := []api.Cell{c}
	if len(c.S) > 0 {
		l = append(l, txt(c.S[:len(c.S)-1]))
	}
	if len(c.S) < 32 {
		l = append(l, txt(c.S+"\x00"))
	}
	return l
}

// vals are what cells are held against: the least, one of the midst, the greatest, and what is around these; what is ahead of all, behind all, and of the other kind.
func vals(l []api.Cell, kind int) []api.Cell {
	some := edges(kind)
	made := []api.Cell{some[0], some[len(some)-1], num(0), num(-1), num(least), num(great), txt(""), txt("a"), txt(xs(32))}
	others := slices.DeleteFunc(slices.Clone(l), func(c api.Cell) bool { return c.Kind == api.Null })
	slices.SortFunc(others, order)
	if len(others) > 0 {
		for _, k := range []int{0, len(others) / 2, len(others) - 1} {
			made = append(made, around(others[k])...)
		}
	}
	slices.SortFunc(made, order)
	return slices.Compact(made)
}

// Si1

// The chapter's example.
func TestExample(t *testing.T) {
	for _, s := range blocks(t, []api.Cell{num(7), {}, num(9)}, api.Int) {
		sifts(t, s, asked(api.TestGe, num(8)), []int{2})
	}
}

// Each op, with Val ahead of all cells, the least, between two, one of the midst, the greatest, behind all, and of the other kind.
func TestSiftAroundVal(t *testing.T) {
	all := []int{0, 1, 3, 4, 6}
	for _, x := range []struct {
		number         int
		text           string
		eq, lt, behind []int
	}{
		{-6, "", nil, nil, all},
		{-5, "b", []int{4}, nil, []int{0, 1, 3, 6}},
		{0, "ba", nil, []int{4}, []int{0, 1, 3, 6}},
		{7, "bb", []int{0, 6}, []int{4}, []int{1, 3}},
		{8, "bba", nil, []int{0, 4, 6}, []int{1, 3}},
		{9, "c", []int{1, 3}, []int{0, 4, 6}, nil},
		{10, "ca", nil, all, nil},
	} {
		for _, y := range []struct {
			l    []api.Cell
			kind int
			val  api.Cell
		}{
			{[]api.Cell{num(7), num(9), {}, num(9), num(-5), {}, num(7)}, api.Int, num(x.number)},
			{[]api.Cell{txt("bb"), txt("c"), {}, txt("c"), txt("b"), {}, txt("bb")}, api.Text, txt(x.text)},
		} {
			for _, s := range blocks(t, y.l, y.kind) {
				sifts(t, s, asked(api.TestEq, y.val), x.eq)
				sifts(t, s, asked(api.TestNe, y.val), where(7, func(at int) bool { return slices.Contains(all, at) && !slices.Contains(x.eq, at) }))
				sifts(t, s, asked(api.TestLt, y.val), x.lt)
				sifts(t, s, asked(api.TestLe, y.val), where(7, func(at int) bool { return slices.Contains(x.lt, at) || slices.Contains(x.eq, at) }))
				sifts(t, s, asked(api.TestGt, y.val), x.behind)
				sifts(t, s, asked(api.TestGe, y.val), where(7, func(at int) bool { return slices.Contains(x.behind, at) || slices.Contains(x.eq, at) }))
				sifts(t, s, isNone, []int{2, 5})
				sifts(t, s, isSome, all)
			}
		}
	}
}

// Numbers stand ahead of texts, whatever they are.
func TestSiftByTheOtherKind(t *testing.T) {
	for _, kind := range kinds() {
		for _, val := range edges(api.Int + api.Text - kind) {
			for _, s := range blocks(t, []api.Cell{edges(kind)[0], {}, edges(kind)[3], edges(kind)[7]}, kind) {
				some := []int{0, 2, 3}
				ahead, behind := some, []int(nil)
				if kind == api.Text {
					ahead, behind = behind, ahead
				}
				sifts(t, s, asked(api.TestEq, val), nil)
				sifts(t, s, asked(api.TestNe, val), some)
				sifts(t, s, asked(api.TestLt, val), ahead)
				sifts(t, s, asked(api.TestLe, val), ahead)
				sifts(t, s, asked(api.TestGt, val), behind)
				sifts(t, s, asked(api.TestGe, val), behind)
			}
		}
	}
}

// Each value at an edge, among others and nulls, with each one as Val.
func TestSiftOfEdges(t *testing.T) {
	for _, kind := range kinds() {
		l := append(slices.Clone(edges(kind)), api.Cell{})
		slices.Reverse(l)
		l = append(l, edges(kind)...)
		for _, s := range blocks(t, l, kind) {
			for _, q := range tests(slices.Concat(edges(api.Int), edges(api.Text))) {
				sifts(t, s, q, passing(q, l))
			}
		}
	}
}

// Blocks of one cell, of 64, alike, different, evenly spaced and in runs, with nulls of all manners.
func TestSiftOfLists(t *testing.T) {
	for _, kind := range kinds() {
		for _, values := range lists(kind) {
			for _, l := range withNulls(values) {
				for _, s := range blocks(t, l, kind) {
					for _, q := range tests(vals(l, kind)) {
						sifts(t, s, q, passing(q, l))
					}
				}
			}
		}
	}
}

// All lists of up to six cells, each a null, or one of two values.
func TestSiftOfAllShortLists(t *testing.T) {
	for _, kind := range kinds() {
		choice := [][]api.Cell{{{}, num(5), num(8)}, {{}, txt("b"), txt("c")}}[kind-api.Int]
		some := tests([][]api.Cell{nums(5, 7, 8), txts("b", "ba", "c")}[kind-api.Int])
		most := 1
		for count := 1; count <= 6; count++ {
			most *= 3
			for which := range most {
				l := make([]api.Cell, count)
				for k := range l {
					l[k] = choice[which%3]
					which /= 3
				}
				for _, s := range blocks(t, l, kind) {
					for _, q := range some {
						sifts(t, s, q, passing(q, l))
					}
				}
			}
		}
	}
}

// None passes, all do, every second one does; and the form that each of these is best in.
func TestSiftOfNoneOfAllAndOfEverySecond(t *testing.T) {
	for _, kind := range kinds() {
		low, high := edges(kind)[6], edges(kind)[9]
		second := where(most, func(at int) bool { return at%2 == 1 })
		for _, s := range blocks(t, slices.Repeat([]api.Cell{low, high}, most/2), kind) {
			for _, x := range []struct {
				q    api.Test
				want []int
				form int
			}{
				{asked(api.TestGt, high), nil, api.FormSpans},
				{asked(api.TestLt, low), nil, api.FormSpans},
				{isNone, nil, api.FormSpans},
				{asked(api.TestGe, low), below(most), api.FormSpans},
				{isSome, below(most), api.FormSpans},
				{asked(api.TestEq, high), second, api.FormWords},
				{asked(api.TestNe, low), second, api.FormWords},
			} {
				sifts(t, s, x.q, x.want)
				if l, _ := Sift(s, x.q); l.Form() != x.form {
					t.Errorf("Sift(%x, %v): in the form %d, not %d", s, x.q, l.Form(), x.form)
				}
			}
		}
		for _, s := range blocks(t, inRuns([]api.Cell{low, high}, 5, 1, 50, 1, 7), kind) {
			if l, e := Sift(s, asked(api.TestEq, high)); l.Form() != api.FormPlaces || !slices.Equal(slices.Collect(l.Places()), []int{5, 56}) || e != api.OK {
				t.Errorf("Sift(%x): %v, %d", s, l, e)
			}
		}
	}
}

// Of nulls alone none passes, but TestNull.
func TestSiftOfNullsAlone(t *testing.T) {
	for _, kind := range kinds() {
		for _, count := range []int{1, 2, 7, 8, 9, 63, 64} {
			for _, s := range blocks(t, make([]api.Cell, count), kind) {
				sifts(t, s, isNone, below(count))
				sifts(t, s, isSome, nil)
				for _, q := range tests(slices.Concat(edges(api.Int), edges(api.Text)))[2:] {
					sifts(t, s, q, nil)
				}
			}
		}
	}
}

// noBlocks are bytes that are none: of a block, cut, with bytes more, and with bits turned; and sealed ones that no cells have.
func noBlocks(t *testing.T) []string {
	t.Helper()
	all := []string{"", "\x00", "a", xs(4), xs(300), strings.Repeat("\x00", 64)}
	for _, kind := range kinds() {
		for _, s := range blocks(t, []api.Cell{edges(kind)[3], {}, edges(kind)[3], edges(kind)[6], edges(kind)[6]}, kind) {
			for end := range len(s) {
				all = append(all, s[:end])
			}
			all = append(all, s[1:], s+"\x00", s+"\xff", "\x00"+s, s+s)
			for bit := range 8 * len(s) {
				turned := []byte(s)
				turned[bit/8] ^= 1 << (bit % 8)
				all = append(all, string(turned))
			}
		}
	}
	for _, s := range []string{
		"", "\x01", "\x01\x02\x01", "\x01\x02\x00\x00", "\x00\x02\x01\x00\x0e\x02", "\x03\x02\x01\x00\x0e\x02", "\x01\x00\x01\x00\x0e\x02", "\x01\x06\x01\x00\x0e\x02",
		"\x01\x02\x02\x00\x0e\x02", "\x01\x02\x02\x00\x0e\x02\x0e\x02", "\x01\x02\x01\x01\x00\x0e\x02", "\x01\x02\x41\x00\x0e\x82\x01", "\x02\x03\x01\x00\x01a", "\x02\x05\x01\x00\x01a",
		"\x02\x04\x02\x00\x04\x01b\x01a\x02", "\x02\x04\x02\x00\x04\x01a\x01b\x00", "\x02\x02\x02\x00\x04\x01a\x01b\x00\x04", "\x01\x05\x01\x00\x04\x07", "\x01\x03\x02\x00\x0a\x02\x01\x00",
	} {
		all = append(all, check.Seal(s))
	}
	return all
}

// Tests that may not be come first, with a block and with bytes that are none.
func TestSiftOfTestsThatMayNotBe(t *testing.T) {
	some := append(noBlocks(t)[:40], "", "a")
	for _, kind := range kinds() {
		some = append(some, blocks(t, []api.Cell{edges(kind)[0], {}}, kind)...)
		some = append(some, blocks(t, make([]api.Cell, 3), kind)...)
	}
	for _, q := range noTests() {
		for _, s := range some {
			siftsNone(t, s, q, api.ErrArg)
		}
	}
}

func TestNoBlocks(t *testing.T) {
	some := []poslist.List{{}}
	for _, places := range [][]int{nil, {0}, {0, 1, 2}, {4}, {5}, below(64), {64}, {0, 65}, {bound - 1}, {0, bound - 1}} {
		some = append(some, listed(t, places)...)
	}
	for _, s := range noBlocks(t) {
		if _, e := block.Look(s); e != api.ErrCorrupt {
			t.Fatalf("%x is a block", s)
		}
		for _, q := range tests([]api.Cell{num(7), num(least), txt(""), txt("a")}) {
			siftsNone(t, s, q, api.ErrCorrupt)
		}
		for _, l := range some {
			gathersNone(t, s, l, api.ErrCorrupt)
			sumsNone(t, s, l, api.ErrCorrupt)
		}
	}
}

// Si2

// chosen are places below a count: none, one, the first, the last, all, and others.
func chosen(count int, s *stirrer) [][]int {
	all := [][]int{nil, {0}, {count - 1}, {count / 2}, below(count), where(count, func(at int) bool { return at%2 == 0 }), where(count, func(at int) bool { return at%2 == 1 })}
	for lessOf := 2; lessOf < 6; lessOf++ {
		all = append(all, s.places(count, lessOf))
	}
	return all
}

func TestGatherAndSum(t *testing.T) {
	l := []api.Cell{num(7), {}, num(-2), num(9), num(9)}
	words := []api.Cell{txt("b"), txt(""), {}, txt("b"), txt("a")}
	for _, x := range []struct {
		places         []int
		numbers, texts []api.Cell
		hi, lo         int
	}{
		{nil, nil, nil, 0, 0},
		{[]int{0}, nums(7), txts("b"), 0, 7},
		{[]int{1}, []api.Cell{{}}, txts(""), 0, 0},
		{[]int{2}, nums(-2), []api.Cell{{}}, -1, 1<<32 - 2},
		{[]int{4}, nums(9), txts("a"), 0, 9},
		{[]int{0, 2, 4}, nums(7, -2, 9), []api.Cell{txt("b"), {}, txt("a")}, 0, 14},
		{[]int{1, 2}, []api.Cell{{}, num(-2)}, []api.Cell{txt(""), {}}, -1, 1<<32 - 2},
		{[]int{0, 1, 2, 3, 4}, l, words, 0, 23},
	} {
		for _, list := range listed(t, x.places) {
			for _, s := range blocks(t, l, api.Int) {
				gathers(t, s, list, x.numbers)
				if hi, lo, e := Sum(s, list); hi != x.hi || lo != x.lo || e != api.OK {
					t.Errorf("Sum(%x, %v): %d, %d, %d, not %d, %d", s, list, hi, lo, e, x.hi, x.lo)
				}
			}
			for _, s := range blocks(t, words, api.Text) {
				gathers(t, s, list, x.texts)
				sumsNone(t, s, list, api.ErrArg)
			}
		}
	}
}

// Places in whatever order, however often, are gathered rising, each once.
func TestGatherRises(t *testing.T) {
	list, _ := poslist.From([]int{4, 0, 2, 0, 4, 4})
	for _, s := range blocks(t, nums(5, 4, 3, 2, 1), api.Int) {
		gathers(t, s, list, nums(5, 3, 1))
		sums(t, s, list, big.NewInt(9))
	}
}

// Cells of all manners, at places of all manners, in each form.
func TestGatherAndSumOfLists(t *testing.T) {
	for _, kind := range kinds() {
		stirred := stir(3)
		for _, values := range lists(kind) {
			for _, l := range withNulls(values) {
				which := chosen(len(l), stirred)
				for _, s := range blocks(t, l, kind) {
					for _, places := range which {
						tellsPlaces(t, s, l, kind, places)
					}
				}
			}
		}
	}
}

// A place that is just as many as there are cells, one more, and the greatest of all, alone and with ones that are there.
func TestPlacesThatAreNotThere(t *testing.T) {
	for _, kind := range kinds() {
		for _, count := range []int{1, 2, 8, 9, 63, 64} {
			for _, l := range [][]api.Cell{slices.Repeat(edges(kind)[3:4], count), make([]api.Cell, count)} {
				for _, places := range [][]int{{count}, {count + 1}, {bound - 1}, {0, count}, {count - 1, count}, {count - 1, count + 1}, {0, bound - 1}, {count, bound - 1}, below(count + 1), append(below(count), bound-1), below(bound)} {
					for _, list := range listed(t, places) {
						for _, s := range blocks(t, l, kind) {
							gathersNone(t, s, list, api.ErrNone)
							sumsNone(t, s, list, api.ErrNone)
						}
					}
				}
				for _, s := range blocks(t, l, kind) {
					tellsPlaces(t, s, l, kind, []int{count - 1})
					tellsPlaces(t, s, l, kind, below(count))
				}
			}
		}
	}
}

func TestSumsAtEdges(t *testing.T) {
	const full = 1 << 32
	for _, x := range []struct {
		l      []api.Cell
		hi, lo int
	}{
		{nums(0), 0, 0},
		{nums(1), 0, 1},
		{nums(-1), -1, full - 1},
		{nums(-1, 1), 0, 0},
		{nums(-1, -1), -1, full - 2},
		{[]api.Cell{{}, num(-1), {}}, -1, full - 1},
		{nums(great), full/2 - 1, full - 1},
		{nums(least), -full / 2, 0},
		{nums(great, least), -1, full - 1},
		{nums(great, 1), full / 2, 0},
		{nums(least, -1), -full/2 - 1, full - 1},
		{nums(great, great), full - 1, full - 2},
		{nums(least, least), -full, 0},
		{nums(great, 1, least), 0, 0},
		{nums(least, -1, great), -1, full - 2},
		{[]api.Cell{num(great), {}, num(great), num(2)}, full, 0},
		{slices.Repeat(nums(great), most), 32*full - 1, full - 64},
		{slices.Repeat(nums(least), most), -32 * full, 0},
		{slices.Repeat(nums(great, least), most/2), -1, full - 32},
		{slices.Repeat(nums(-1), most), -1, full - 64},
		{slices.Repeat(nums(full-1), most), 63, full - 64},
		{slices.Repeat(nums(1-full), most), -64, 64},
		{nums(full - 1), 0, full - 1},
		{nums(full), 1, 0},
		{nums(full/2, full/2-1), 0, full - 1},
		{nums(full/2, full/2), 1, 0},
		{nums(full-1, 1), 1, 0},
		{nums(full, -1), 0, full - 1},
		{slices.Repeat(nums(full/64), most), 1, 0},
		{nums(-full), -1, 0},
		{nums(-full + 1), -1, 1},
		{nums(-full - 1), -2, full - 1},
		{nums(-full/2, -full/2), -1, 0},
		{nums(-full/2, -full/2-1), -2, full - 1},
		{nums(-full/2, -full/2+1), -1, 1},
		{nums(-full, 1), -1, 1},
		{slices.Repeat(nums(-full/64), most), -1, 0},
		{make([]api.Cell, 1), 0, 0},
		{make([]api.Cell, most), 0, 0},
	} {
		for _, list := range listed(t, below(len(x.l))) {
			for _, s := range blocks(t, x.l, api.Int) {
				if hi, lo, e := Sum(s, list); hi != x.hi || lo != x.lo || e != api.OK {
					t.Errorf("Sum of %v: %d, %d, %d, not %d, %d", x.l, hi, lo, e, x.hi, x.lo)
				}
				sums(t, s, list, summed(x.l))
			}
		}
	}
}

// Sums with nulls among the places are those of the others.
func TestSumsPassOverNulls(t *testing.T) {
	l := []api.Cell{{}, num(5), {}, num(-3), {}, num(great), {}}
	for _, s := range blocks(t, l, api.Int) {
		for which := range 1 << len(l) {
			places := where(len(l), func(at int) bool { return which>>at&1 == 1 })
			tellsPlaces(t, s, l, api.Int, places)
			some := slices.DeleteFunc(slices.Clone(places), func(at int) bool { return l[at].Kind == api.Null })
			list, _ := poslist.From(some)
			sums(t, s, list, summed(at(l, places)))
		}
	}
}

// The kind of texts is told also of no places, and of nulls alone; a place too many is told first.
func TestSumOfTexts(t *testing.T) {
	for _, l := range [][]api.Cell{txts("7"), txts("7", "8", ""), {txt("a"), {}}, make([]api.Cell, 2)} {
		for _, s := range blocks(t, l, api.Text) {
			for _, places := range [][]int{nil, {0}, {len(l) - 1}, below(len(l))} {
				for _, list := range listed(t, places) {
					sumsNone(t, s, list, api.ErrArg)
				}
			}
			for _, places := range [][]int{{len(l)}, {0, len(l)}, {bound - 1}} {
				for _, list := range listed(t, places) {
					sumsNone(t, s, list, api.ErrNone)
				}
			}
			for _, list := range listed(t, nil) {
				sumsNone(t, s[1:], list, api.ErrCorrupt)
				sumsNone(t, s+"\x00", list, api.ErrCorrupt)
			}
		}
	}
}

// Si3

// Of one list of cells all codes, and the best one, tell the same.
func TestAllCodesTellTheSame(t *testing.T) {
	for _, kind := range kinds() {
		stirred := stir(5 + kind)
		for k := range 40 {
			l := stirred.cells(edges(kind), 1+stirred.below(most), 1+k%7, 1+k%5)
			best, _, _ := block.Best(l, kind)
			all := append(blocks(t, l, kind), best)
			for _, places := range chosen(len(l), stirred) {
				for _, s := range all {
					tellsPlaces(t, s, l, kind, places)
				}
			}
			for _, q := range tests(vals(l, kind)) {
				want, _ := Sift(all[0], q)
				for _, s := range all {
					got, e := Sift(s, q)
					if got.Form() != want.Form() || !slices.Equal(got.Spans(), want.Spans()) || e != api.OK {
						t.Fatalf("Sift(%x, %v): %v, %d, not %v", s, q, got, e, want)
					}
					sifts(t, s, q, passing(q, l))
				}
			}
		}
	}
}

// What passes is what the block's cells tell, one by one; and what is gathered there passes.
func TestSiftedCellsPass(t *testing.T) {
	for _, kind := range kinds() {
		stirred := stir(9 + kind)
		for k := range 40 {
			l := stirred.cells(edges(kind), 1+stirred.below(most), 2+k%5, 1+k%4)
			for _, s := range blocks(t, l, kind) {
				cells, _ := block.Take(s)
				for _, q := range tests(edges(kind)) {
					list, _ := Sift(s, q)
					for at, c := range cells {
						if list.Has(at) != passes(q, c) {
							t.Fatalf("Sift(%x, %v): %v, but of the cell %v at %d: %t", s, q, list, c, at, passes(q, c))
						}
					}
					gathered, _ := Gather(s, list)
					if len(gathered) != list.Count() || slices.ContainsFunc(gathered, func(c api.Cell) bool { return !passes(q, c) }) {
						t.Fatalf("Gather(%x) of Sift by %v: %v", s, q, gathered)
					}
				}
			}
		}
	}
}

// carried are two sums together, as hi and lo.
func carried(hi, lo, moreHi, moreLo int) (int, int) {
	hi, lo = hi+moreHi, lo+moreLo
	if lo >= 1<<32 {
		return hi + 1, lo - 1<<32
	}
	return hi, lo
}

// parted fails if the sum of places is not that of those that are in a part, and of the others.
func parted(t *testing.T, s string, whole, part poslist.List) {
	t.Helper()
	hi, lo, e := Sum(s, whole)
	partHi, partLo, partE := Sum(s, whole.And(part))
	restHi, restLo, restE := Sum(s, whole.Less(part))
	wantHi, wantLo := carried(partHi, partLo, restHi, restLo)
	if hi != wantHi || lo != wantLo || e != api.OK || partE != api.OK || restE != api.OK {
		t.Fatalf("Sum(%x, %v): %d, %d; parted by %v: %d, %d", s, whole, hi, lo, part, wantHi, wantLo)
	}
}

func TestSumsOfParts(t *testing.T) {
	l := []api.Cell{num(great), {}, num(-1), num(1 << 31), num(1 << 31), num(least)}
	for _, s := range blocks(t, l, api.Int) {
		for which := range 1 << (2 * len(l)) {
			whole, _ := poslist.From(where(len(l), func(at int) bool { return which>>at&1 == 1 }))
			part, _ := poslist.From(where(len(l), func(at int) bool { return which>>(len(l)+at)&1 == 1 }))
			parted(t, s, whole, part)
		}
	}
	stirred := stir(20)
	for k := range 200 {
		l := stirred.cells(edges(api.Int), 1+stirred.below(most), 2+k%6, 1+k%3)
		for _, s := range blocks(t, l, api.Int) {
			whole, _ := poslist.From(stirred.places(len(l), 2+k%5))
			part, _ := poslist.From(stirred.places(len(l), 2))
			parted(t, s, whole, part)
		}
	}
}

// A test and its opposite part the cells that are no nulls, by each code.
func TestOpposites(t *testing.T) {
	for _, kind := range kinds() {
		l := masked(stir(30).cells(edges(kind), most, 1<<30, 2), masks[6])
		for _, s := range blocks(t, l, kind) {
			some, _ := Sift(s, isSome)
			for _, val := range edges(kind) {
				for _, ops := range [][2]int{{api.TestEq, api.TestNe}, {api.TestLt, api.TestGe}, {api.TestLe, api.TestGt}} {
					a, _ := Sift(s, asked(ops[0], val))
					b, _ := Sift(s, asked(ops[1], val))
					if a.And(b).Count() != 0 || !slices.Equal(a.Or(b).Spans(), some.Spans()) {
						t.Fatalf("%x, %v: %v by %d, %v by %d", s, val, a, ops[0], b, ops[1])
					}
				}
			}
		}
	}
}

// R1 to R4

// A list, and what was gathered, stay as they were when more is asked, and what was gathered is nobody else's.
func TestAnswersStay(t *testing.T) {
	for _, kind := range kinds() {
		l := stir(40).cells(edges(kind), most, 5, 2)
		all := blocks(t, l, kind)
		for _, s := range all {
			for _, q := range tests(edges(kind)[5:8]) {
				list, _ := Sift(s, q)
				kept := slices.Collect(list.Places())
				want := at(l, kept)
				first, _ := Gather(s, list)
				second, _ := Gather(s, list)
				for k := range first {
					first[k] = api.Cell{Kind: api.Text, S: "changed"}
				}
				_ = append(first, txt("more"))
				for _, other := range all {
					Sift(other, isNone)
					Sift(other, asked(api.TestNe, edges(kind)[0]))
					Gather(other, list)
					Sum(other, list)
				}
				if !slices.Equal(second, want) {
					t.Fatalf("Gather(%x, %v): %v, not %v", s, list, second, want)
				}
				gathers(t, s, list, want)
				if !slices.Equal(slices.Collect(list.Places()), kept) {
					t.Fatalf("Sift(%x, %v): %v, not %v", s, q, list, kept)
				}
				sifts(t, s, q, kept)
			}
		}
	}
}

// What is refused leaves no trace in what is asked next.
func TestAskedAgain(t *testing.T) {
	l := []api.Cell{num(7), {}, num(9)}
	none, _ := poslist.From([]int{3})
	some, _ := poslist.From([]int{0, 1, 2})
	for _, s := range blocks(t, l, api.Int) {
		for range 3 {
			siftsNone(t, s, asked(0, num(7)), api.ErrArg)
			siftsNone(t, s[1:], isSome, api.ErrCorrupt)
			gathersNone(t, s, none, api.ErrNone)
			sumsNone(t, s, none, api.ErrNone)
			sifts(t, s, asked(api.TestGe, num(8)), []int{2})
			gathers(t, s, some, l)
			sums(t, s, some, big.NewInt(16))
		}
	}
}
