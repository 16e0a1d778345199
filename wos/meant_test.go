package wos

import (
	"cmp"
	"math"
	"peristyle/api"
	"peristyle/poslist"
	"peristyle/vint"
	"slices"
	"strings"
	"testing"
)

const (
	room  = 1 << 9  // rows of a store, at most
	limit = 1 << 12 // lives that are put, at most
	top   = 1 << 40 // the last epoch
	bound = 1 << 16 // of places
	wide  = 255     // cells of a row, at most
	least = math.MinInt
	great = math.MaxInt
)

// epochs are some that are, and noEpochs numbers that are none, some of which are like one in fewer bits.
var (
	epochs   = []int{1, 2, 3, 63, 64, 1 << 31, 1 << 32, 1<<32 + 1, top - 1, top}
	noEpochs = []int{0, -1, -2, -1 << 32, -top, least, least + 1, top + 1, top + 2, 2 * top, 1 << 62, great - 1, great}
)

// num is a number's cell, txt a text's.
func num(n int) api.Cell { return api.Cell{Kind: api.Int, N: n} }

func txt(s string) api.Cell { return api.Cell{Kind: api.Text, S: s} }

// nums are numbers as a row.
func nums(l ...int) api.Row {
	var made api.Row
	for _, n := range l {
		made = append(made, num(n))
	}
	return made
}

// xs is a text of so many bytes.
func xs(count int) string { return strings.Repeat("x", count) }

// ones are so many rows of a number each, that tells its place.
func ones(count int) []api.Row {
	l := make([]api.Row, count)
	for k := range l {
		l[k] = nums(k)
	}
	return l
}

// goodRows may be put: without cells, of unlike lengths and kinds, of as many cells as can be.
func goodRows() []api.Row {
	return []api.Row{nil, {}, {{}}, {{}, {}, {}}, nums(0), nums(1, 2, 3), nums(least, great, -1), {txt("")}, {txt("it's"), {}, num(-5)}, {txt(xs(32))}, {txt("\x00\xff\x80"), txt(xs(31))}, slices.Repeat(nums(7), wide), slices.Repeat(api.Row{{}}, wide), slices.Repeat(api.Row{txt(xs(32))}, wide)}
}

// oddCells may not be.
func oddCells() []api.Cell {
	return []api.Cell{{N: 1}, {N: least}, {S: "a"}, {Kind: api.Int, S: "a"}, {Kind: api.Int, N: 1, S: "a"}, {Kind: api.Text, N: 7}, {Kind: api.Text, N: 7, S: "a"}, {Kind: 3}, {Kind: -1}, {Kind: 256}, {Kind: 257}, {Kind: 1<<32 + 1}, {Kind: least}, {Kind: great}, txt(xs(33)), txt(xs(300))}
}

// badRows may not be put: with each odd cell as the first one, as one of the midst, as the last one, and with too many cells.
func badRows() []api.Row {
	var l []api.Row
	for _, odd := range oddCells() {
		l = append(l, api.Row{odd}, api.Row{odd, num(1), {}}, api.Row{num(1), odd, txt("a")}, api.Row{num(1), {}, odd})
	}
	l = append(l, append(slices.Repeat(nums(7), wide-1), api.Cell{N: 1}))
	for _, count := range []int{wide + 1, wide + 2, 2 * wide, 512, 513} {
		l = append(l, slices.Repeat(nums(7), count), make(api.Row, count))
	}
	return l
}

// asked is a test.
func asked(op int, val api.Cell) api.Test { return api.Test{Op: op, Val: val} }

// isNone and isSome are the two that have no Val.
var (
	isNone = api.Test{Op: api.TestNull}
	isSome = api.Test{Op: api.TestSome}
)

// tests are all that may be, of each op with each of some values.
func tests(vals ...api.Cell) []api.Test {
	l := []api.Test{isNone, isSome}
	for op := api.TestEq; op <= api.TestGe; op++ {
		for _, val := range vals {
			l = append(l, asked(op, val))
		}
	}
	return l
}

// noTests are some that may not be, each by its Op, or by its Val.
func noTests() []api.Test {
	l := []api.Test{{}, asked(0, num(1)), asked(9, num(1)), asked(9, api.Cell{}), asked(-1, num(1)), asked(257, num(1)), asked(least, num(1)), asked(great, num(1)), asked(api.TestNull, num(0)), asked(api.TestSome, txt(""))}
	for op := api.TestEq; op <= api.TestGe; op++ {
		l = append(l, asked(op, api.Cell{}))
		for _, odd := range oddCells() {
			l = append(l, asked(op, odd))
		}
	}
	return l
}

// stirrer gives numbers by a fixed rule.
type stirrer struct{ word uint64 }

func stir(seed int) *stirrer { return &stirrer{uint64(seed)*2 + 1} }

func (s *stirrer) below(n int) int {
	s.word = s.word*6364136223846793005 + 1442695040888963407
	return int(s.word >> 33 % uint64(n))
}

// one is one of a list.
func one[T any](s *stirrer, l []T) T { return l[s.below(len(l))] }

// row is a short one, of few cells.
func (s *stirrer) row() api.Row {
	var r api.Row
	for range s.below(5) {
		r = append(r, one(s, []api.Cell{{}, num(-1), num(0), num(1), num(2), txt(""), txt("a"), txt("b")}))
	}
	return r
}

// rows are so many of them.
func (s *stirrer) rows(count int) []api.Row {
	l := make([]api.Row, count)
	for k := range l {
		l[k] = s.row()
	}
	return l
}

// places are some below one, rising.
func (s *stirrer) places(below int) []int {
	var l []int
	often := 1 + s.below(9)
	for at := range below {
		if s.below(often) == 0 {
			l = append(l, at)
		}
	}
	return l
}

// lives are so many that may be, of epochs from 1 to one.
func (s *stirrer) lives(count, last int) []api.Live {
	l := make([]api.Live, count)
	for k := range l {
		l[k] = api.Live{Row: s.row(), Born: 1 + s.below(last)}
		if s.below(3) == 0 {
			l[k].Gone = 1 + s.below(last)
		}
	}
	return l
}

// The chapter's words.

// model is a store, as the chapter tells it.
type model struct {
	most  int
	lives []api.Live
}

// isEpochOf tells whether a number is one.
func isEpochOf(e int) bool { return 1 <= e && e <= top }

// isCell tells whether a cell may be.
func isCell(c api.Cell) bool {
	switch c.Kind {
	case api.Null:
		return c.N == 0 && c.S == ""
	case api.Int:
		return c.S == ""
	case api.Text:
		return c.N == 0 && len(c.S) <= 32
	}
	return false
}

// isRow tells whether a row may be put.
func isRow(r api.Row) bool {
	for _, c := range r {
		if !isCell(c) {
			return false
		}
	}
	return len(r) <= wide
}

// isLife tells whether a life may be.
func isLife(l api.Live) bool {
	return isRow(l.Row) && isEpochOf(l.Born) && (l.Gone == 0 || isEpochOf(l.Gone))
}

func (m *model) add(rows []api.Row, e int) api.Errno {
	if !isEpochOf(e) {
		return api.ErrArg
	}
	for _, r := range rows {
		if !isRow(r) {
			return api.ErrArg
		}
	}
	if len(m.lives)+len(rows) > m.most {
		return api.ErrFull
	}
	for _, r := range rows {
		m.lives = append(m.lives, api.Live{Row: append(api.Row{}, r...), Born: e})
	}
	return api.OK
}

func (m *model) delete(places []int, e int) api.Errno {
	if !isEpochOf(e) {
		return api.ErrArg
	}
	for _, at := range places {
		if at >= len(m.lives) || m.lives[at].Gone != 0 {
			return api.ErrNone
		}
	}
	for _, at := range places {
		m.lives[at].Gone = e
	}
	return api.OK
}

func (m *model) cut(e int) []api.Live {
	var cut, stays []api.Live
	for _, life := range m.lives {
		if life.Born > e {
			stays = append(stays, life)
			continue
		}
		cut = append(cut, life)
	}
	m.lives = stays
	return cut
}

func (m *model) copy() *model { return &model{m.most, slices.Clone(m.lives)} }

// visible are the places that are seen: a row is not, if it came later, or went by then.
func (m *model) visible(e int) []int {
	var seen []int
	for at, life := range m.lives {
		if life.Born > e || life.Gone != 0 && life.Gone <= e {
			continue
		}
		seen = append(seen, at)
	}
	return seen
}

// cellOf is a row's cell in a column.
func cellOf(r api.Row, col int) api.Cell {
	for k, c := range r {
		if k == col {
			return c
		}
	}
	return api.Cell{}
}

// order is how two cells that may be stand: by Kind, then by what the Kind has.
func order(a, b api.Cell) int {
	return cmp.Or(cmp.Compare(a.Kind, b.Kind), cmp.Compare(a.N, b.N), strings.Compare(a.S, b.S))
}

// isTest tells whether a test may be.
func isTest(t api.Test) bool {
	if t.Op == api.TestNull || t.Op == api.TestSome {
		return t.Val == api.Cell{}
	}
	return t.Op >= api.TestEq && t.Op <= api.TestGe && isCell(t.Val) && t.Val.Kind != api.Null
}

// passes tells whether a cell passes a test.
func passes(t api.Test, c api.Cell) bool {
	isNull := c.Kind == api.Null
	switch t.Op {
	case api.TestNull:
		return isNull
	case api.TestSome:
		return !isNull
	}
	signs := map[int][]int{api.TestEq: {0}, api.TestNe: {-1, 1}, api.TestLt: {-1}, api.TestLe: {-1, 0}, api.TestGt: {1}, api.TestGe: {0, 1}}
	return !isNull && slices.Contains(signs[t.Op], order(c, t.Val))
}

func (m *model) scan(col int, t api.Test, places []int) ([]int, api.Errno) {
	if !isTest(t) || col < 0 {
		return nil, api.ErrArg
	}
	var l []int
	for _, at := range places {
		if at >= len(m.lives) {
			return nil, api.ErrNone
		}
		if passes(t, cellOf(m.lives[at].Row, col)) {
			l = append(l, at)
		}
	}
	return l, api.OK
}

func (m *model) rows(cols, places []int) ([]api.Row, api.Errno) {
	for _, col := range cols {
		if col < 0 {
			return nil, api.ErrArg
		}
	}
	var l []api.Row
	for _, at := range places {
		if at >= len(m.lives) {
			return nil, api.ErrNone
		}
		var r api.Row
		for _, col := range cols {
			r = append(r, cellOf(m.lives[at].Row, col))
		}
		l = append(l, r)
	}
	return l, api.OK
}

// cellBytes are a cell's bytes, whether it may be or not.
func cellBytes(c api.Cell) string {
	s := string([]byte{byte(c.Kind)})
	switch c.Kind {
	case api.Int:
		s += vint.Put(c.N)
	case api.Text:
		s += string([]byte{byte(len(c.S))}) + c.S
	}
	return s
}

// rowBytes are a row's bytes.
func rowBytes(r api.Row) string {
	s := string([]byte{byte(len(r))})
	for _, c := range r {
		s += cellBytes(c)
	}
	return s
}

// bytesAs are the bytes of lives, told to be so many, whether they may be or not.
func bytesAs(count int, l []api.Live) string {
	var s strings.Builder
	s.WriteString(vint.Put(count))
	for _, life := range l {
		s.WriteString(rowBytes(life.Row))
		s.WriteString(vint.Put(life.Born))
		s.WriteString(vint.Put(life.Gone))
	}
	return s.String()
}

// bytesOf are the bytes of lives.
func bytesOf(l []api.Live) string { return bytesAs(len(l), l) }

// reader takes bytes off, one thing behind the other, till one is none.
type reader struct {
	s    string
	used int
	bad  bool
}

func (r *reader) byte() int {
	if r.bad || r.used == len(r.s) {
		r.bad = true
		return 0
	}
	r.used++
	return int(r.s[r.used-1])
}

func (r *reader) number() int {
	n, bytes, errno := vint.Take(r.s[r.used:])
	if r.bad || errno != api.OK {
		r.bad = true
		return 0
	}
	r.used += bytes
	return n
}

func (r *reader) cell() api.Cell {
	c := api.Cell{Kind: r.byte()}
	switch c.Kind {
	case api.Int:
		c.N = r.number()
	case api.Text:
		for range r.byte() {
			c.S += string([]byte{byte(r.byte())})
		}
	}
	r.bad = r.bad || !isCell(c)
	return c
}

func (r *reader) life() api.Live {
	var life api.Live
	for range r.byte() {
		life.Row = append(life.Row, r.cell())
	}
	life.Born, life.Gone = r.number(), r.number()
	r.bad = r.bad || !isLife(life)
	return life
}

// livesIn are the lives that bytes begin with, and how many bytes they have; false, if there are none.
func livesIn(s string) ([]api.Live, int, bool) {
	r := &reader{s: s}
	count := r.number()
	var l []api.Live
	for len(l) < count && !r.bad {
		l = append(l, r.life())
	}
	if r.bad || count < 0 || count > limit {
		return nil, 0, false
	}
	return l, r.used, true
}

// bestOf is the best form of places.
func bestOf(places []int) int {
	inSpans, inWords, inPlaces := 0, 0, 2*len(places)
	for k, at := range places {
		inWords = 8 * (at/64 + 1)
		if k == 0 || places[k-1] != at-1 {
			inSpans += 8
		}
	}
	switch {
	case inSpans <= inWords && inSpans <= inPlaces:
		return api.FormSpans
	case inWords <= inPlaces:
		return api.FormWords
	}
	return api.FormPlaces
}

// from are the places from one on, below another.
func from(lo, hi int) []int {
	var l []int
	for at := lo; at < hi; at++ {
		l = append(l, at)
	}
	return l
}

// every are so many places, from one on, so far from each other.
func every(first, step, count int) []int {
	var l []int
	for k := range count {
		l = append(l, first+k*step)
	}
	return l
}

// some are lists of places, of so many rows: none, each one, some, all, the last one, and such with places that have none.
func some(rows int) [][]int {
	l := [][]int{nil, from(0, rows), {rows}, {rows + 1}, {bound - 1}, from(0, rows+1), {rows, bound - 1}, every(0, 2, rows/2), every(1, 2, rows/2), append(from(0, rows), bound-1)}
	if rows > 0 {
		l = append(l, []int{0}, []int{rows - 1}, []int{rows / 2}, from(1, rows), from(0, rows-1), []int{rows - 1, rows}, []int{0, bound - 1})
	}
	return l
}

// What fails a test.

// short is a list as it is told: its beginning alone.
func short[T any](l []T) []T { return l[:min(len(l), 12)] }

// listOf is the list of places, in the best form.
func listOf(t *testing.T, places ...int) poslist.List {
	t.Helper()
	l, errno := poslist.From(places)
	if errno != api.OK {
		t.Fatalf("no list of %d..: %d", short(places), errno)
	}
	return l
}

// listed are the lists of places: one in each form, and, of none, the zero List.
func listed(t *testing.T, places []int) []poslist.List {
	t.Helper()
	var l []poslist.List
	for _, form := range []int{api.FormSpans, api.FormWords, api.FormPlaces} {
		as, errno := listOf(t, places...).As(form)
		if errno != api.OK {
			t.Fatal(errno)
		}
		l = append(l, as)
	}
	if len(places) == 0 {
		l = append(l, poslist.List{})
	}
	return l
}

// sameRows tells whether rows are the same, cell by cell.
func sameRows(a, b []api.Row) bool {
	return slices.EqualFunc(a, b, func(x, y api.Row) bool { return slices.Equal(x, y) })
}

// sameLives tells whether lives are the same.
func sameLives(a, b []api.Live) bool {
	return slices.EqualFunc(a, b, func(x, y api.Live) bool {
		return slices.Equal(x.Row, y.Row) && x.Born == y.Born && x.Gone == y.Gone
	})
}

// isList fails if a list is not of these places, in their best form.
func isList(t *testing.T, what string, l poslist.List, places []int) {
	t.Helper()
	if got := slices.Collect(l.Places()); !slices.Equal(got, places) || l.Form() != bestOf(places) || l.Count() != len(places) {
		t.Fatalf("%s: %d.., %d in form %d, not %d.., %d in form %d", what, short(got), len(got), l.Form(), short(places), len(places), bestOf(places))
	}
}

// pair is a store, and what it must be.
type pair struct {
	*testing.T
	s *Store
	m *model
}

// made is a pair of a store of at most so many rows, without any.
func made(t *testing.T, most int) pair {
	t.Helper()
	s, errno := New(most)
	if s == nil || errno != api.OK {
		t.Fatalf("New(%d): %d", most, errno)
	}
	p := pair{t, s, &model{most: most}}
	p.same("New")
	return p
}

// of is a pair of a store with lives, each of which came, and went, by calls of its own; there is room for some more.
func of(t *testing.T, lives ...api.Live) pair {
	t.Helper()
	p := made(t, min(room, len(lives)+3))
	for at, life := range lives {
		p.adds([]api.Row{life.Row}, life.Born, api.OK)
		if life.Gone != 0 {
			p.deletes([]int{at}, life.Gone, api.OK)
		}
	}
	return p
}

// born is a life of a row that tells a number.
func born(n, e, gone int) api.Live { return api.Live{Row: nums(n), Born: e, Gone: gone} }

// same fails if the store does not tell, by Count, Left and Lives, what it must.
func (p pair) same(what string) {
	p.Helper()
	if count, left := p.s.Count(), p.s.Left(); count != len(p.m.lives) || left != p.m.most-len(p.m.lives) {
		p.Fatalf("behind %s: Count %d, Left %d, not %d, %d", what, count, left, len(p.m.lives), p.m.most-len(p.m.lives))
	}
	if got := p.s.Lives(); !sameLives(got, p.m.lives) {
		p.Fatalf("behind %s: Lives %v.., %d, not %v.., %d", what, short(got), len(got), short(p.m.lives), len(p.m.lives))
	}
}

// adds fails if Add does not answer that error, or leaves other rows than it must.
func (p pair) adds(rows []api.Row, e int, want api.Errno) {
	p.Helper()
	if meant := p.m.add(rows, e); meant != want {
		p.Fatalf("the model's Add of %d rows in %d: %d, not %d", len(rows), e, meant, want)
	}
	if errno := p.s.Add(rows, e); errno != want {
		p.Fatalf("Add(%v.., %d) of %d rows: %d, not %d", short(rows), e, len(rows), errno, want)
	}
	p.same("Add")
}

// deletes fails if Delete of places, in each form, does not answer that error, or leaves other rows than it must.
func (p pair) deletes(places []int, e int, want api.Errno) {
	p.Helper()
	ahead := p.m.copy()
	if meant := p.m.delete(places, e); meant != want {
		p.Fatalf("the model's Delete(%d.., %d): %d, not %d", short(places), e, meant, want)
	}
	for _, l := range listed(p.T, places) {
		s := p.s.Copy()
		if errno := s.Delete(l, e); errno != want {
			p.Fatalf("Delete(%d.. in form %d, %d) of %v..: %d, not %d", short(places), l.Form(), e, short(ahead.lives), errno, want)
		}
		pair{p.T, s, p.m}.same("Delete")
		pair{p.T, p.s, ahead}.same("Delete of a copy")
	}
	p.s.Delete(listOf(p.T, places...), e)
	p.same("Delete")
}

// cuts fails if Cut does not tell, and leave, what it must.
func (p pair) cuts(e int) []api.Live {
	p.Helper()
	want := p.m.cut(e)
	got := p.s.Cut(e)
	if !sameLives(got, want) {
		p.Fatalf("Cut(%d): %v.., %d, not %v.., %d", e, short(got), len(got), short(want), len(want))
	}
	p.same("Cut")
	return got
}

// sees fails if Visible does not answer what it must.
func (p pair) sees(e int) {
	p.Helper()
	isList(p.T, "Visible", p.s.Visible(e), p.m.visible(e))
}

// scans fails if Scan of places, in each form, does not answer what it must, and tells which error that is.
func (p pair) scans(col int, t api.Test, places []int) api.Errno {
	p.Helper()
	want, wantErrno := p.m.scan(col, t, places)
	for _, l := range listed(p.T, places) {
		got, errno := p.s.Scan(col, t, l)
		if errno != wantErrno {
			p.Fatalf("Scan(%d, %v, %d.. in form %d): %d, not %d", col, t, short(places), l.Form(), errno, wantErrno)
		}
		isList(p.T, "Scan", got, want)
	}
	return wantErrno
}

// reads fails if Rows of places, in each form, does not answer what it must, and tells which error that is.
func (p pair) reads(cols, places []int) api.Errno {
	p.Helper()
	want, wantErrno := p.m.rows(cols, places)
	for _, l := range listed(p.T, places) {
		got, errno := p.s.Rows(cols, l)
		if !sameRows(got, want) || errno != wantErrno {
			p.Fatalf("Rows(%d, %d.. in form %d): %v.., %d, %d, not %v.., %d, %d", cols, short(places), l.Form(), short(got), len(got), errno, short(want), len(want), wantErrno)
		}
	}
	return wantErrno
}

// puts fails if Put does not answer these bytes, and that error.
func puts(t *testing.T, l []api.Live, want string, wantErrno api.Errno) {
	t.Helper()
	if got, errno := Put(l); got != want || errno != wantErrno {
		t.Fatalf("Put(%v..) of %d: %x.., %d, not %x.., %d", short(l), len(l), short([]byte(got)), errno, short([]byte(want)), wantErrno)
	}
}

// takes fails if Take does not answer these lives, and so many bytes.
func takes(t *testing.T, s string, want []api.Live, wantUsed int) {
	t.Helper()
	if got, used, errno := Take(s); !sameLives(got, want) || used != wantUsed || errno != api.OK {
		t.Fatalf("Take of %d bytes, %x..: %v.., %d, %d, not %v.., %d", len(s), short([]byte(s)), short(got), used, errno, short(want), wantUsed)
	}
}

// takesNone fails if Take does not answer ErrForm, and nothing beside.
func takesNone(t *testing.T, s string) {
	t.Helper()
	if got, used, errno := Take(s); len(got) != 0 || used != 0 || errno != api.ErrForm {
		t.Fatalf("Take of %d bytes, %x..: %v.., %d, %d, not ErrForm alone", len(s), short([]byte(s)), short(got), used, errno)
	}
}

// takesAsMeant fails if Take answers otherwise than the chapter's words, and tells whether there are lives.
func takesAsMeant(t *testing.T, s string) bool {
	t.Helper()
	l, used, ok := livesIn(s)
	if ok {
		takes(t, s, l, used)
	} else {
		takesNone(t, s)
	}
	return ok
}
