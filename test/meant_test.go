package test

import (
	"bytes"
	"encoding/binary"
	"math"
	"peristyle/api"
	"slices"
	"strings"
	"testing"
)

const (
	least = math.MinInt
	great = math.MaxInt
)

// someOps are the eight, by their numbers; noOps are numbers that are none of them, some of which are like one in fewer bits.
var (
	someOps = []int{api.TestEq, api.TestNe, api.TestLt, api.TestLe, api.TestGt, api.TestGe, api.TestNull, api.TestSome}
	noOps   = []int{0, -1, 9, least, great, -2, -8, 10, 255, 256, 257, 263, 264, 1 << 32, 1<<32 + 1, 1<<32 + 7, 1<<32 + 8, least + 1, least + 7, great - 1}
)

// valued are the ops that hold a cell against Val.
func valued() []int { return someOps[:6] }

// someNumbers and someTexts rise.
var (
	someNumbers = []int{least, least + 1, -1 << 32, -300, -2, -1, 0, 1, 2, 5, 300, 1 << 32, great - 1, great}
	someTexts   = []string{"", "\x00", "\x00\x00", "'", "0", "5", "a", "a\x00", "aa", "ab", "b", "null", xs(31), xs(32), xs(31) + "y", "\x7f", "\x80", "\xfe", "\xff", "\xff\x00", "\xff\xff", strings.Repeat("\xff", 32)}
)

// xs is a text of so many bytes.
func xs(count int) string { return strings.Repeat("x", count) }

// of is a cell of any Kind, with any N and S.
func of(kind, n int, s string) api.Cell { return api.Cell{Kind: kind, N: n, S: s} }

// num is a number's cell, txt a text's.
func num(n int) api.Cell { return of(1, n, "") }

func txt(s string) api.Cell { return of(2, 0, s) }

// nums are numbers as cells.
func nums(l ...int) []api.Cell {
	var made []api.Cell
	for _, n := range l {
		made = append(made, num(n))
	}
	return made
}

// txts are texts as cells.
func txts(l ...string) []api.Cell {
	var made []api.Cell
	for _, s := range l {
		made = append(made, txt(s))
	}
	return made
}

// nulls are so many.
func nulls(count int) []api.Cell { return make([]api.Cell, count) }

// between is a zone of numbers.
func between(lowest, highest, nulls, count int) api.Zone {
	return api.Zone{Min: num(lowest), Max: num(highest), Nulls: nulls, Count: count}
}

// asked is a test.
func asked(op int, val api.Cell) api.Test { return api.Test{Op: op, Val: val} }

// isNone and isSome are the two that have no Val.
var (
	isNone = api.Test{Op: api.TestNull}
	isSome = api.Test{Op: api.TestSome}
)

// values are cells that may be, and are no nulls, rising.
func values() []api.Cell { return slices.Concat(nums(someNumbers...), txts(someTexts...)) }

// noCells are cells that may not be: of no Kind, with what their Kind gives no meaning, and with texts that are too long.
func noCells() []api.Cell {
	l := []api.Cell{
		of(0, 1, ""), of(0, -1, ""), of(0, 0, "a"), of(0, 5, "a"), of(0, least, ""), of(0, 0, xs(33)),
		of(1, 0, "a"), of(1, 5, "a"), of(1, -1, "\x00"), of(1, great, xs(32)), of(1, 5, xs(33)),
		of(2, 1, ""), of(2, -1, "a"), of(2, 5, "a"), of(2, least, xs(32)), of(2, 5, xs(33)),
		txt(xs(33)), txt(xs(34)), txt(xs(255)), txt(xs(256)), txt(xs(258)), txt(strings.Repeat("\xff", 33)),
	}
	for _, kind := range []int{-1, 3, least, great, -2, 4, 255, 256, 257, 258, 1 << 32, 1<<32 + 1, 1<<32 + 2, least + 1, least + 2, great - 1} {
		l = append(l, of(kind, 0, ""), of(kind, 5, ""), of(kind, 0, "a"), of(kind, -5, "b"), of(kind, 0, xs(33)))
	}
	return l
}

// allCells are the null, the values, and those that may not be.
func allCells() []api.Cell { return slices.Concat(nulls(1), values(), noCells()) }

// tests are all that may be, of each op with each of some values.
func tests(vals []api.Cell) []api.Test {
	l := []api.Test{isNone, isSome}
	for _, op := range valued() {
		for _, val := range vals {
			l = append(l, asked(op, val))
		}
	}
	return l
}

// noTests are tests that may not be, each by its Op, or by its Val.
func noTests() []api.Test {
	var l []api.Test
	for _, op := range noOps {
		for _, val := range allCells() {
			l = append(l, asked(op, val))
		}
	}
	for _, op := range valued() {
		for _, val := range append(noCells(), api.Cell{}) {
			l = append(l, asked(op, val))
		}
	}
	for _, op := range []int{api.TestNull, api.TestSome} {
		for _, val := range append(noCells(), values()...) {
			l = append(l, asked(op, val))
		}
	}
	return l
}

// stirrer gives numbers by a fixed rule.
type stirrer struct{ word uint64 }

func stir(seed int) *stirrer { return &stirrer{uint64(seed)*2 + 1} }

func (s *stirrer) below(n int) int {
	s.word = s.word*6364136223846793005 + 1442695040888963407
	return int(s.word >> 33 % uint64(n))
}

// cells are so many of a list, of which one of so many is a null.
func (s *stirrer) cells(from []api.Cell, count, oneOf int) []api.Cell {
	l := make([]api.Cell, count)
	for k := range l {
		l[k] = from[s.below(len(from))]
		if s.below(oneOf) == 0 {
			l[k] = api.Cell{}
		}
	}
	return l
}

// shuffled are the same cells in another order.
func (s *stirrer) shuffled(l []api.Cell) []api.Cell {
	l = slices.Clone(l)
	for k := range l {
		other := s.below(k + 1)
		l[k], l[other] = l[other], l[k]
	}
	return l
}

// The chapter's words.

// standing is where a cell stands, as bytes that stand as the cells do: Kind, and N, their highest byte first, the least number as noughts; and S.
func standing(c api.Cell) []byte {
	s := binary.BigEndian.AppendUint64(nil, uint64(c.Kind)+1<<63)
	s = binary.BigEndian.AppendUint64(s, uint64(c.N)+1<<63)
	return append(s, c.S...)
}

// order is below 0, if the first of two cells is ahead, above 0, if it is behind.
func order(a, b api.Cell) int { return bytes.Compare(standing(a), standing(b)) }

// mayTest tells whether a test may be.
func mayTest(q api.Test) bool {
	if q.Op == api.TestNull || q.Op == api.TestSome {
		return q.Val.Kind == 0 && q.Val.N == 0 && q.Val.S == ""
	}
	if q.Op < api.TestEq || q.Op > api.TestGe {
		return false
	}
	return q.Val.Kind == api.Int && q.Val.S == "" || q.Val.Kind == api.Text && q.Val.N == 0 && len(q.Val.S) < 33
}

// passes tells whether a cell passes a test that may be.
func passes(q api.Test, c api.Cell) bool {
	null, stands := c.Kind == 0, order(c, q.Val)
	return map[int]bool{
		api.TestEq:   !null && stands == 0,
		api.TestNe:   !null && stands != 0,
		api.TestLt:   !null && stands < 0,
		api.TestLe:   !null && stands <= 0,
		api.TestGt:   !null && stands > 0,
		api.TestGe:   !null && stands >= 0,
		api.TestNull: null,
		api.TestSome: !null,
	}[q.Op]
}

// zone is the zone of cells: of those that are no nulls, in order, the first and the last one.
func zone(l []api.Cell) api.Zone {
	others := slices.DeleteFunc(slices.Clone(l), func(c api.Cell) bool { return c.Kind == 0 })
	z := api.Zone{Nulls: len(l) - len(others), Count: len(l)}
	if len(others) > 0 {
		slices.SortFunc(others, order)
		z.Min, z.Max = others[0], others[len(others)-1]
	}
	return z
}

// tellsNone tells whether it can be told by a zone that no cell passes a test that may be.
func tellsNone(q api.Test, z api.Zone) bool {
	if z.Count == 0 || q.Op != api.TestNull && z.Nulls == z.Count {
		return true
	}
	return map[int]bool{
		api.TestEq:   order(q.Val, z.Min) < 0 || order(q.Val, z.Max) > 0,
		api.TestNe:   order(z.Min, q.Val) == 0 && order(z.Max, q.Val) == 0,
		api.TestLt:   !passes(q, z.Min),
		api.TestLe:   !passes(q, z.Min),
		api.TestGt:   !passes(q, z.Max),
		api.TestGe:   !passes(q, z.Max),
		api.TestNull: z.Nulls == 0,
		api.TestSome: false,
	}[q.Op]
}

// tellsAll tells whether it can be told by a zone that all cells pass a test that may be.
func tellsAll(q api.Test, z api.Zone) bool {
	if z.Count == 0 || q.Op != api.TestNull && z.Nulls != 0 {
		return false
	}
	return map[int]bool{
		api.TestEq:   order(z.Min, q.Val) == 0 && order(z.Max, q.Val) == 0,
		api.TestNe:   order(q.Val, z.Min) < 0 || order(q.Val, z.Max) > 0,
		api.TestLt:   passes(q, z.Max),
		api.TestLe:   passes(q, z.Max),
		api.TestGt:   passes(q, z.Min),
		api.TestGe:   passes(q, z.Min),
		api.TestNull: z.Nulls == z.Count,
		api.TestSome: true,
	}[q.Op]
}

// opposites are the ops, two by two: a cell that is no null passes just one of both.
var opposites = [][2]int{{api.TestEq, api.TestNe}, {api.TestLt, api.TestGe}, {api.TestLe, api.TestGt}, {api.TestNull, api.TestSome}}

// checks fails if Check answers another one.
func checks(t *testing.T, q api.Test, want api.Errno) {
	t.Helper()
	if got := Check(q); got != want {
		t.Errorf("Check(%v): %d, not %d", q, got, want)
	}
}

// matches fails if Match answers otherwise.
func matches(t *testing.T, q api.Test, c api.Cell, want bool) {
	t.Helper()
	if got := Match(q, c); got != want {
		t.Errorf("Match(%v, %v): %t", q, c, got)
	}
}

// zones fails if Zone answers another one.
func zones(t *testing.T, l []api.Cell, want api.Zone) {
	t.Helper()
	if got := Zone(l); got != want {
		t.Errorf("Zone of %d, %v..: %v, not %v", len(l), l[:min(len(l), 20)], got, want)
	}
}

// merges fails if Merge answers another zone.
func merges(t *testing.T, a, b, want api.Zone) {
	t.Helper()
	if got := Merge(a, b); got != want {
		t.Errorf("Merge(%v, %v): %v, not %v", a, b, got, want)
	}
}

// tells fails if None, or All, answers otherwise.
func tells(t *testing.T, q api.Test, z api.Zone, none, all bool) {
	t.Helper()
	if got := None(q, z); got != none {
		t.Errorf("None(%v, %v): %t", q, z, got)
	}
	if got := All(q, z); got != all {
		t.Errorf("All(%v, %v): %t", q, z, got)
	}
}

// bounds fails if Bounds answers others.
func bounds(t *testing.T, q api.Test, l []int, wantFrom, wantTo int) {
	t.Helper()
	if from, to := Bounds(q, l); from != wantFrom || to != wantTo {
		t.Errorf("Bounds of %v and %d numbers, %v..: %d, %d, not %d, %d", q, len(l), l[:min(len(l), 20)], from, to, wantFrom, wantTo)
	}
}

// boundsByMatch fails if a number is within Bounds, and does not pass, or the other way round.
func boundsByMatch(t *testing.T, q api.Test, l []int) {
	t.Helper()
	from, to := Bounds(q, l)
	if from < 0 || to > len(l) || from > to || from == to && from != 0 {
		t.Errorf("Bounds of %v and %d numbers, %v..: %d, %d", q, len(l), l[:min(len(l), 20)], from, to)
	}
	for k, n := range l {
		within := from <= k && k < to
		if within != Match(q, num(n)) || within != passes(q, num(n)) {
			t.Errorf("Bounds of %v and %d numbers, %v..: %d, %d; but number %d, %d, passes: %t, by Match: %t", q, len(l), l[:min(len(l), 20)], from, to, k, n, passes(q, num(n)), Match(q, num(n)))
		}
	}
}
