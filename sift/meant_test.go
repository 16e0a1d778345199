package sift

import (
	"bytes"
	"encoding/binary"
	"math"
	"math/big"
	"peristyle/api"
	"peristyle/block"
	"peristyle/poslist"
	"reflect"
	"slices"
	"strings"
	"testing"
)

const (
	least = math.MinInt
	great = math.MaxInt
	most  = 64      // cells of a block
	bound = 1 << 16 // of places
)

// num is a number's cell, txt a text's.
func num(n int) api.Cell { return api.Cell{Kind: api.Int, N: n} }

func txt(s string) api.Cell { return api.Cell{Kind: api.Text, S: s} }

// nums are numbers as cells.
func nums(l ...int) []api.Cell {
	var made []api.Cell
	for _, n := range l {
		made = append(made, num(n))
	}
	return made
}

// txts are texts as cells.
func txts(l ...string) []api.Cell {
	var made []api.Cell
	for _, s := range l {
		made = append(made, txt(s))
	}
	return made
}

// xs is a text of so many bytes.
func xs(count int) string { return strings.Repeat("x", count) }

// asked is a test.
func asked(op int, val api.Cell) api.Test { return api.Test{Op: op, Val: val} }

// isNone and isSome are the two that have no Val.
var (
	isNone = api.Test{Op: api.TestNull}
	isSome = api.Test{Op: api.TestSome}
)

// valued are the ops that hold a cell against Val.
func valued() []int {
	return []int{api.TestEq, api.TestNe, api.TestLt, api.TestLe, api.TestGt, api.TestGe}
}

// tests are all that may be, of each op with each of some values.
func tests(vals []api.Cell) []api.Test {
	l := []api.Test{isNone, isSome}
	for _, op := range valued() {
		for _, val := range vals {
			l = append(l, asked(op, val))
		}
	}
	return l
}

// noTests are tests that may not be, each by its Op, or by its Val.
func noTests() []api.Test {
	var l []api.Test
	for _, op := range []int{0, -1, 9, 10, 256, 257, 264, 1<<32 + 1, 1<<32 + 7, least, least + 1, great} {
		for _, val := range []api.Cell{{}, num(7), txt("a")} {
			l = append(l, asked(op, val))
		}
	}
	odd := []api.Cell{{N: 1}, {S: "a"}, {Kind: 1, S: "a"}, {Kind: 2, N: 7, S: "a"}, {Kind: 3}, {Kind: -1}, {Kind: great}, txt(xs(33))}
	for _, op := range valued() {
		for _, val := range append(odd, api.Cell{}) {
			l = append(l, asked(op, val))
		}
	}
	for _, op := range []int{api.TestNull, api.TestSome} {
		for _, val := range append(odd, num(0), num(7), txt(""), txt("a")) {
			l = append(l, asked(op, val))
		}
	}
	return l
}

// kinds are those of blocks.
func kinds() []int { return []int{api.Int, api.Text} }

// codes are those of a kind.
func codes(kind int) []int {
	if kind == api.Int {
		return []int{api.CodePlain, api.CodeRuns, api.CodeFrame, api.CodeDict, api.CodePack}
	}
	return []int{api.CodePlain, api.CodeRuns, api.CodeDict}
}

// forms are the three of lists.
func forms() []int { return []int{api.FormSpans, api.FormWords, api.FormPlaces} }

// coded is a block of cells, by a code.
func coded(t *testing.T, l []api.Cell, kind, code int) string {
	t.Helper()
	s, e := block.Put(l, kind, code)
	if e != api.OK {
		t.Fatalf("block.Put(%v, %d, %d): %d", l, kind, code, e)
	}
	return s
}

// blocks are those of cells, by each code of their kind.
func blocks(t *testing.T, l []api.Cell, kind int) []string {
	t.Helper()
	var made []string
	for _, code := range codes(kind) {
		made = append(made, coded(t, l, kind, code))
	}
	return made
}

// listed are the lists of rising places: the best one, and one in each form.
func listed(t *testing.T, places []int) []poslist.List {
	t.Helper()
	best, e := poslist.From(places)
	if e != api.OK {
		t.Fatalf("poslist.From(%v): %d", places, e)
	}
	l := []poslist.List{best}
	for _, form := range forms() {
		as, _ := best.As(form)
		l = append(l, as)
	}
	if len(places) == 0 {
		l = append(l, poslist.List{})
	}
	return l
}

// stirrer gives numbers by a fixed rule.
type stirrer struct{ word uint64 }

func stir(seed int) *stirrer { return &stirrer{uint64(seed)*2 + 1} }

func (s *stirrer) below(n int) int {
	s.word = s.word*6364136223846793005 + 1442695040888963407
	return int(s.word >> 33 % uint64(n))
}

// cells are so many of a list, of which one of so many is a null, and one of so many another one than that ahead.
func (s *stirrer) cells(from []api.Cell, count, nullOf, newOf int) []api.Cell {
	l := make([]api.Cell, count)
	value := from[s.below(len(from))]
	for k := range l {
		if s.below(newOf) == 0 {
			value = from[s.below(len(from))]
		}
		if s.below(nullOf) > 0 {
			l[k] = value
		}
	}
	return l
}

// places are some below n, rising, of which one of so many is left out.
func (s *stirrer) places(n, lessOf int) []int {
	return where(n, func(int) bool { return s.below(lessOf) > 0 })
}

// The chapter's words, told of the cells one by one.

// where are the numbers below n that are wanted.
func where(n int, wanted func(at int) bool) []int {
	var l []int
	for at := range n {
		if wanted(at) {
			l = append(l, at)
		}
	}
	return l
}

// below are all places below n.
func below(n int) []int { return where(n, func(int) bool { return true }) }

// standing is where a cell stands, as bytes that stand as the cells do.
func standing(c api.Cell) []byte {
	s := binary.BigEndian.AppendUint64([]byte{byte(c.Kind)}, uint64(c.N)+1<<63)
	return append(s, c.S...)
}

// order is below 0, if the first of two cells is ahead, above 0, if it is behind.
func order(a, b api.Cell) int { return bytes.Compare(standing(a), standing(b)) }

// passes tells whether a cell passes a test that may be.
func passes(q api.Test, c api.Cell) bool {
	if q.Op == api.TestNull || c.Kind == api.Null {
		return q.Op == api.TestNull && c.Kind == api.Null
	}
	stands := order(c, q.Val)
	return q.Op == api.TestSome ||
		q.Op == api.TestEq && stands == 0 || q.Op == api.TestNe && stands != 0 ||
		q.Op == api.TestLt && stands < 0 || q.Op == api.TestLe && stands <= 0 ||
		q.Op == api.TestGt && stands > 0 || q.Op == api.TestGe && stands >= 0
}

// passing are the places of cells that pass.
func passing(q api.Test, l []api.Cell) []int {
	return where(len(l), func(at int) bool { return passes(q, l[at]) })
}

// bestForm is the form of places below 64 that costs least: 8 a span, 8 for the one word, 2 a place.
func bestForm(places []int) int {
	spans := 0
	for _, at := range places {
		if !slices.Contains(places, at-1) {
			spans++
		}
	}
	form, cost := api.FormSpans, 8*spans
	if cost > 8 {
		form, cost = api.FormWords, 8
	}
	if cost > 2*len(places) {
		form = api.FormPlaces
	}
	return form
}

// at are the cells at some places.
func at(l []api.Cell, places []int) []api.Cell {
	var made []api.Cell
	for _, place := range places {
		made = append(made, l[place])
	}
	return made
}

// summed is the sum of the numbers among cells.
func summed(l []api.Cell) *big.Int {
	sum := new(big.Int)
	for _, c := range l {
		if c.Kind == api.Int {
			sum.Add(sum, big.NewInt(int64(c.N)))
		}
	}
	return sum
}

// joined is 2^32 hi + lo.
func joined(hi, lo int) *big.Int {
	sum := new(big.Int).Lsh(big.NewInt(int64(hi)), 32)
	return sum.Add(sum, big.NewInt(int64(lo)))
}

// sifts fails if Sift does not answer these places, in the best form.
func sifts(t *testing.T, s string, q api.Test, want []int) {
	t.Helper()
	l, e := Sift(s, q)
	if got := slices.Collect(l.Places()); !slices.Equal(got, want) || e != api.OK {
		t.Fatalf("Sift(%x, %v): %v, %d, not %v", s, q, got, e, want)
	}
	if l.Form() != bestForm(want) {
		t.Fatalf("Sift(%x, %v): %v in the form %d, not %d", s, q, want, l.Form(), bestForm(want))
	}
	own, _ := poslist.Best(l.Spans())
	if own.Form() != l.Form() || own.Cost(own.Form()) != l.Cost(l.Form()) {
		t.Fatalf("Sift(%x, %v): %v in the form %d, but layer 16 takes %d", s, q, want, l.Form(), own.Form())
	}
}

// siftsNone fails if Sift does not answer that error alone.
func siftsNone(t *testing.T, s string, q api.Test, want api.Errno) {
	t.Helper()
	if l, e := Sift(s, q); !reflect.DeepEqual(l, poslist.List{}) || e != want {
		t.Fatalf("Sift(%x, %v): %v, %d, not %d alone", s, q, l, e, want)
	}
}

// gathers fails if Gather does not answer these cells.
func gathers(t *testing.T, s string, l poslist.List, want []api.Cell) {
	t.Helper()
	if got, e := Gather(s, l); !slices.Equal(got, want) || e != api.OK {
		t.Fatalf("Gather(%x, %v): %v, %d, not %v", s, l, got, e, want)
	}
}

// gathersNone fails if Gather does not answer that error alone.
func gathersNone(t *testing.T, s string, l poslist.List, want api.Errno) {
	t.Helper()
	if got, e := Gather(s, l); len(got) != 0 || e != want {
		t.Fatalf("Gather(%x, %v..): %v, %d, not %d alone", s, l.Slice(0, 9), got, e, want)
	}
}

// sums fails if Sum does not answer that sum, by a lo from 0 to 2^32 - 1.
func sums(t *testing.T, s string, l poslist.List, want *big.Int) {
	t.Helper()
	hi, lo, e := Sum(s, l)
	if joined(hi, lo).Cmp(want) != 0 || e != api.OK {
		t.Fatalf("Sum(%x, %v): %d, %d, %d, not %v", s, l, hi, lo, e, want)
	}
	if lo < 0 || lo >= 1<<32 {
		t.Fatalf("Sum(%x, %v): lo %d", s, l, lo)
	}
}

// sumsNone fails if Sum does not answer that error alone.
func sumsNone(t *testing.T, s string, l poslist.List, want api.Errno) {
	t.Helper()
	if hi, lo, e := Sum(s, l); hi != 0 || lo != 0 || e != want {
		t.Fatalf("Sum(%x, %v..): %d, %d, %d, not %d alone", s, l.Slice(0, 9), hi, lo, e, want)
	}
}

// tellsPlaces fails if Gather and Sum do not tell, of cells' block, what is at some places, as a list in each form.
func tellsPlaces(t *testing.T, s string, l []api.Cell, kind int, places []int) {
	t.Helper()
	want := at(l, places)
	for _, list := range listed(t, places) {
		gathers(t, s, list, want)
		if kind == api.Int {
			sums(t, s, list, summed(want))
		} else {
			sumsNone(t, s, list, api.ErrArg)
		}
	}
}
