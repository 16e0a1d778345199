package segment

import (
	"cmp"
	"math"
	"math/big"
	"peristyle/api"
	"peristyle/column"
	"peristyle/device"
	"peristyle/extent"
	"peristyle/poslist"
	"reflect"
	"slices"
	"strings"
	"testing"
)

const (
	least = math.MinInt
	great = math.MaxInt
	most  = 64      // cells of a block
	limit = 1 << 12 // rows of a segment, at most
	bound = 1 << 16 // of places
	size  = 128     // bytes of a device's block
)

// num is a number's cell, txt a text's.
func num(n int) api.Cell { return api.Cell{Kind: api.Int, N: n} }

func txt(s string) api.Cell { return api.Cell{Kind: api.Text, S: s} }

// nums are numbers as a row.
func nums(l ...int) api.Row {
	var made api.Row
	for _, n := range l {
		made = append(made, num(n))
	}
	return made
}

// xs is a text of so many bytes.
func xs(count int) string { return strings.Repeat("x", count) }

// asked is a test.
func asked(op int, val api.Cell) api.Test { return api.Test{Op: op, Val: val} }

// isNone and isSome are the two that have no Val.
var (
	isNone = api.Test{Op: api.TestNull}
	isSome = api.Test{Op: api.TestSome}
)

// tests are all that may be, of each op with each of some values.
func tests(vals ...api.Cell) []api.Test {
	l := []api.Test{isNone, isSome}
	for op := api.TestEq; op <= api.TestGe; op++ {
		for _, val := range vals {
			l = append(l, asked(op, val))
		}
	}
	return l
}

// noTests are some that may not be, each by its Op, or by its Val.
func noTests() []api.Test {
	return []api.Test{{}, asked(9, num(1)), asked(-1, num(1)), asked(least, num(1)), asked(great, num(1)), asked(api.TestEq, api.Cell{}), asked(api.TestLt, api.Cell{Kind: 3}), asked(api.TestNull, num(1))}
}

// oddCells may not be, whatever the kind is.
func oddCells() []api.Cell {
	return []api.Cell{{N: 1}, {S: "a"}, {Kind: api.Int, S: "a"}, {Kind: api.Text, N: 7}, {Kind: api.Text, N: 7, S: "a"}, {Kind: 3}, {Kind: -1}, {Kind: least}, {Kind: great}, txt(xs(33)), txt(xs(300))}
}

// noKinds are none of columns.
func noKinds() []int { return []int{api.Null, 3, -1, 256, 257, 258, 1<<32 + 1, least, great} }

// one is the list of places, in the best form.
func one(t *testing.T, places ...int) poslist.List {
	t.Helper()
	l, e := poslist.From(places)
	if e != api.OK {
		t.Fatalf("poslist.From(%v): %d", places, e)
	}
	return l
}

// listed are the lists of places: the best one, and one in each form.
func listed(t *testing.T, places []int) []poslist.List {
	t.Helper()
	best := one(t, places...)
	l := []poslist.List{best}
	for _, form := range []int{api.FormSpans, api.FormWords, api.FormPlaces} {
		as, _ := best.As(form)
		l = append(l, as)
	}
	if len(places) == 0 {
		l = append(l, poslist.List{})
	}
	return l
}

// stirrer gives numbers by a fixed rule.
type stirrer struct{ word uint64 }

func stir(seed int) *stirrer { return &stirrer{uint64(seed)*2 + 1} }

func (s *stirrer) below(n int) int {
	s.word = s.word*6364136223846793005 + 1442695040888963407
	return int(s.word >> 33 % uint64(n))
}

// cell is one of so many of a kind, or, one of ten times, a null.
func (s *stirrer) cell(kind, many int) api.Cell {
	n := s.below(many)
	switch {
	case s.below(10) == 0:
		return api.Cell{}
	case kind == api.Int:
		return num((n - many/2) * 10)
	}
	return txt(word(n))
}

// word is a text that a number tells; a greater number's stands behind it.
func word(n int) string { return "t" + string([]byte{byte(n >> 8), byte(n)}) }

// rows are so many of these kinds, each cell one of so many.
func (s *stirrer) rows(kinds []int, count, many int) []api.Row {
	l := make([]api.Row, count)
	for k := range l {
		for _, kind := range kinds {
			l[k] = append(l[k], s.cell(kind, many))
		}
	}
	return l
}

// where are the numbers below n that are wanted.
func where(n int, wanted func(at int) bool) []int {
	var l []int
	for at := range n {
		if wanted(at) {
			l = append(l, at)
		}
	}
	return l
}

// below are all places below n.
func below(n int) []int { return where(n, func(int) bool { return true }) }

// A device, and a map of blocks.

type ground struct {
	d *device.Device
	m *extent.Map
}

// made is a device, and a map of as many blocks.
func made(t *testing.T, blocks int) ground { return unlike(t, blocks, blocks) }

// unlike is a device of so many blocks, and a map of another number of them.
func unlike(t *testing.T, blocks, mapped int) ground {
	t.Helper()
	d, e := device.New(blocks)
	m, e2 := extent.New(mapped)
	if e != api.OK || e2 != api.OK {
		t.Fatalf("a device of %d, a map of %d: %d, %d", blocks, mapped, e, e2)
	}
	return ground{d, m}
}

// seen is all that can be told of a ground, but for a fuse.
type seen struct {
	blocks  []string
	waiting []int
	off     bool
	holes   []api.Extent
}

func (g ground) seen() seen {
	s := seen{waiting: g.d.Waiting(), off: g.d.Off(), holes: g.m.Holes()}
	for at := range g.d.Size() {
		bytes, _ := g.d.Read(at)
		s.blocks = append(s.blocks, bytes)
	}
	return s
}

// stays fails if something of a ground is not as it was.
func (g ground) stays(t *testing.T, was seen, behind string) {
	t.Helper()
	if now := g.seen(); !slices.Equal(now.blocks, was.blocks) || !slices.Equal(now.waiting, was.waiting) || now.off != was.off {
		t.Fatalf("%s: the device is not as it was: %v wait, not %v", behind, now.waiting, was.waiting)
	}
	g.mapStays(t, was, behind)
}

// mapStays fails if the map is not as it was.
func (g ground) mapStays(t *testing.T, was seen, behind string) {
	t.Helper()
	if now := g.m.Holes(); !slices.Equal(now, was.holes) {
		t.Fatalf("%s: the holes are %v, not %v", behind, now, was.holes)
	}
}

// turnedOff lets a device's power go off, with nothing else done.
func turnedOff(t *testing.T, d *device.Device) {
	t.Helper()
	d.Fuse(0)
	if e := d.Sync(); e != api.ErrOff || !d.Off() {
		t.Fatalf("Sync at a fuse: %d", e)
	}
}

// twin is another ground whose blocks and map are the same; nothing waits there.
func (g ground) twin(t *testing.T) ground {
	t.Helper()
	own := unlike(t, g.d.Size(), 1)
	for at, s := range g.seen().blocks {
		if e := own.d.Spoil(at, s); e != api.OK {
			t.Fatalf("Spoil(%d): %d", at, e)
		}
	}
	return ground{own.d, g.m.Copy()}
}

// The chapter's words.

// order is below 0, if the first of two cells is ahead, above 0, if it is behind.
func order(a, b api.Cell) int {
	return cmp.Or(cmp.Compare(a.Kind, b.Kind), cmp.Compare(a.N, b.N), strings.Compare(a.S, b.S))
}

// has is a row's cell in a column; a null, if it has none there.
func has(r api.Row, col int) api.Cell {
	if col < len(r) {
		return r[col]
	}
	return api.Cell{}
}

// stands is below 0, if the first of two rows is ahead by the first columns, so many, above 0, if it is behind.
func stands(a, b api.Row, keys int) int {
	for col := 0; col < keys && (col < len(a) || col < len(b)); col++ {
		if x := order(has(a, col), has(b, col)); x != 0 {
			return x
		}
	}
	return 0
}

// numbered are the numbers of rows in order: of those that are the same the lower number is ahead; none by fewer columns than none.
func numbered(rows []api.Row, keys int) []int {
	if keys < 0 {
		return nil
	}
	l := below(len(rows))
	slices.SortFunc(l, func(a, b int) int { return cmp.Or(stands(rows[a], rows[b], keys), cmp.Compare(a, b)) })
	return l
}

// ordered are rows in order.
func ordered(rows []api.Row, keys int) []api.Row {
	var l []api.Row
	for _, n := range numbered(rows, keys) {
		l = append(l, rows[n])
	}
	return l
}

// cellsOf are a column's cells of rows.
func cellsOf(rows []api.Row, col int) []api.Cell {
	var l []api.Cell
	for _, row := range rows {
		l = append(l, row[col])
	}
	return l
}

// laid is the segment that Build must tell, and what it must leave; false, if there is no room.
func laid(t *testing.T, g ground, rows []api.Row, kinds []int, keys int) (api.Segment, seen, bool) {
	t.Helper()
	own, all := g.twin(t), ordered(rows, keys)
	s := api.Segment{Kinds: slices.Clone(kinds), Keys: keys, Count: len(rows)}
	for col, kind := range kinds {
		refs, e := column.Lay(own.d, own.m, cellsOf(all, col), kind)
		if e == api.ErrFull {
			return api.Segment{}, seen{}, false
		}
		if e != api.OK {
			t.Fatalf("Lay of the column %d: %d", col, e)
		}
		s.Cols = append(s.Cols, refs)
	}
	now := own.seen()
	now.waiting = append(g.d.Waiting(), now.waiting...)
	return s, now, true
}

// sought is the span of the places of rows, in order, whose first cells are those of prefix, or where they would stand.
func sought(rows []api.Row, prefix api.Row) api.Span {
	var span api.Span
	for _, row := range rows {
		switch x := stands(row, prefix, len(prefix)); {
		case x < 0:
			span.Lo, span.Hi = span.Lo+1, span.Hi+1
		case x == 0:
			span.Hi++
		}
	}
	return span
}

// of are some columns of the rows at some places.
func of(rows []api.Row, cols, places []int) []api.Row {
	l := make([]api.Row, len(places))
	for k, at := range places {
		for _, col := range cols {
			l[k] = append(l[k], rows[at][col])
		}
	}
	return l
}

// summed is the sum of the numbers among cells.
func summed(l []api.Cell) *big.Int {
	sum := new(big.Int)
	for _, c := range l {
		sum.Add(sum, big.NewInt(int64(c.N)))
	}
	return sum
}

// joined is 2^32 hi + lo.
func joined(hi, lo int) *big.Int {
	sum := new(big.Int).Lsh(big.NewInt(int64(hi)), 32)
	return sum.Add(sum, big.NewInt(int64(lo)))
}

// alike tells whether two segments are the same; no list is an empty one.
func alike(a, b api.Segment) bool {
	return slices.Equal(a.Kinds, b.Kinds) && a.Keys == b.Keys && a.Count == b.Count && slices.EqualFunc(a.Cols, b.Cols, slices.Equal)
}

// same tells whether two lists of rows are the same.
func same(a, b []api.Row) bool { return slices.EqualFunc(a, b, slices.Equal) }

// copied is a segment in memory of its own.
func copied(s api.Segment) api.Segment {
	s.Kinds, s.Cols = slices.Clone(s.Kinds), slices.Clone(s.Cols)
	for k := range s.Cols {
		s.Cols[k] = slices.Clone(s.Cols[k])
	}
	return s
}

// rowsCopied are rows in memory of their own.
func rowsCopied(rows []api.Row) []api.Row {
	rows = slices.Clone(rows)
	for k := range rows {
		rows[k] = slices.Clone(rows[k])
	}
	return rows
}

// Calls, and what they must answer.

// orders fails if Order does not answer the numbers of the rows in order.
func orders(t *testing.T, rows []api.Row, keys int) {
	t.Helper()
	was := rowsCopied(rows)
	if got := Order(rows, keys); !slices.Equal(got, numbered(rows, keys)) {
		t.Fatalf("Order of %d rows by %d: %v, not %v", len(rows), keys, got, numbered(rows, keys))
	}
	if !same(rows, was) {
		t.Fatalf("Order changed rows: %v, not %v", rows, was)
	}
}

// builds is what Build answers, of rows for which there is room.
func (g ground) builds(t *testing.T, rows []api.Row, kinds []int, keys int) api.Segment {
	t.Helper()
	want, now, fits := laid(t, g, rows, kinds, keys)
	if !fits {
		t.Fatalf("no room for %d rows", len(rows))
	}
	wasRows, wasKinds := rowsCopied(rows), slices.Clone(kinds)
	s, e := Build(g.d, g.m, rows, kinds, keys)
	if !alike(s, want) || e != api.OK {
		t.Fatalf("Build of %d rows of %v by %d: %v, %d, not %v", len(rows), kinds, keys, s, e, want)
	}
	g.stays(t, now, "Build")
	if e := Check(s); e != api.OK {
		t.Fatalf("Check of what was built: %d", e)
	}
	if !same(rows, wasRows) || !slices.Equal(kinds, wasKinds) {
		t.Fatalf("Build changed rows, or kinds: %v", kinds)
	}
	return s
}

// buildsNone fails if Build does not answer that error alone, or the map is not as it was; the device, too, unless the power was off, or went off.
func (g ground) buildsNone(t *testing.T, rows []api.Row, kinds []int, keys int, want api.Errno) {
	t.Helper()
	was := g.seen()
	s, e := Build(g.d, g.m, rows, kinds, keys)
	if !alike(s, api.Segment{}) || e != want {
		t.Fatalf("Build of %d rows of %v by %d: %v, %d, not %d alone", len(rows), kinds, keys, s, e, want)
	}
	if want == api.ErrOff {
		g.mapStays(t, was, "Build without power")
	} else {
		g.stays(t, was, "Build, refused")
	}
}

// opens is what Open answers, of a segment that may be.
func (g ground) opens(t *testing.T, s api.Segment) *Reader {
	t.Helper()
	r, e := Open(g.d, s)
	if r == nil || e != api.OK {
		t.Fatalf("Open(%v): %t, %d", s, r != nil, e)
	}
	return r
}

// holds is a reader of rows that are built.
func (g ground) holds(t *testing.T, rows []api.Row, kinds []int, keys int) *Reader {
	t.Helper()
	return g.opens(t, g.builds(t, rows, kinds, keys))
}

// reads fails if Reads did not grow by so many.
func reads(t *testing.T, r *Reader, was, want int, what string) {
	t.Helper()
	if got := r.Reads() - was; got != want {
		t.Fatalf("%s: %d blocks were read, not %d", what, got, want)
	}
}

// likeColumn fails if what a reader tells of a column is not what layer 19 tells of it, and reads as many blocks by.
func likeColumn(t *testing.T, g ground, r *Reader, s api.Segment, col int, q api.Test, l poslist.List) {
	t.Helper()
	c, e := column.Open(g.d, s.Kinds[col], s.Cols[col])
	if e != api.OK {
		t.Fatalf("Open of the column %d: %d", col, e)
	}
	was := r.Reads()
	if r.Zone(col) != c.Zone() || r.Count() != c.Count() {
		t.Fatalf("the column %d: %v, %d, not %v, %d", col, r.Zone(col), r.Count(), c.Zone(), c.Count())
	}
	got, e := r.Scan(col, q, l)
	want, e2 := c.Scan(q, l)
	if !slices.Equal(got.Spans(), want.Spans()) || got.Form() != want.Form() || e != e2 {
		t.Fatalf("Scan(%d, %v, %v): %v, %d, not %v, %d", col, q, l.Spans(), got.Spans(), e, want.Spans(), e2)
	}
	cells, e := r.Gather(col, l)
	meant, e2 := c.Gather(l)
	if !slices.Equal(cells, meant) || e != e2 {
		t.Fatalf("Gather(%d, %v): %v, %d, not %v, %d", col, l.Spans(), cells, e, meant, e2)
	}
	hi, lo, e := r.Sum(col, l)
	hi2, lo2, e2 := c.Sum(l)
	if hi != hi2 || lo != lo2 || e != e2 {
		t.Fatalf("Sum(%d, %v): %d, %d, %d, not %d, %d, %d", col, l.Spans(), hi, lo, e, hi2, lo2, e2)
	}
	reads(t, r, was, c.Reads(), "Scan, Gather and Sum")
}

// tells fails if Rows does not answer these columns of rows, in order, at the places.
func tells(t *testing.T, r *Reader, rows []api.Row, cols []int, l poslist.List) {
	t.Helper()
	places := slices.Collect(l.Places())
	if got, e := r.Rows(cols, l); !same(got, of(rows, cols, places)) || e != api.OK {
		t.Fatalf("Rows(%v, %v): %v, %d, not %v", cols, l.Spans(), got, e, of(rows, cols, places))
	}
}

// seeks fails if Seek does not answer the span of rows, in order, or a scan of the columns tells another one (Se4).
func seeks(t *testing.T, r *Reader, rows []api.Row, prefix api.Row) {
	t.Helper()
	was := slices.Clone(prefix)
	want := sought(rows, prefix)
	if got, e := r.Seek(prefix); got != want || e != api.OK {
		t.Fatalf("Seek(%v): %v, %d, not %v", prefix, got, e, want)
	}
	if !slices.Equal(prefix, was) {
		t.Fatalf("Seek changed its prefix: %v, not %v", prefix, was)
	}
	l := one(t, below(len(rows))...)
	for col, c := range prefix {
		q := asked(api.TestEq, c)
		if c.Kind == api.Null {
			q = isNone
		}
		var e api.Errno
		if l, e = r.Scan(col, q, l); e != api.OK {
			t.Fatalf("Scan(%d, %v): %d", col, q, e)
		}
	}
	if spans := l.Spans(); len(spans) > 1 || len(spans) == 1 && spans[0] != want || len(spans) == 0 && want.Lo != want.Hi {
		t.Fatalf("Seek(%v): %v, but a scan tells %v", prefix, want, spans)
	}
}

// seeksNone, rowsNone and columnNone fail if a call does not answer that error alone.
func seeksNone(t *testing.T, r *Reader, prefix api.Row, want api.Errno) {
	t.Helper()
	if got, e := r.Seek(prefix); got != (api.Span{}) || e != want {
		t.Fatalf("Seek(%v): %v, %d, not %d alone", prefix, got, e, want)
	}
}

func rowsNone(t *testing.T, r *Reader, cols []int, l poslist.List, want api.Errno) {
	t.Helper()
	if got, e := r.Rows(cols, l); len(got) != 0 || e != want {
		t.Fatalf("Rows(%v, %v..): %v, %d, not %d alone", cols, l.Slice(0, 9), got, e, want)
	}
}

func columnNone(t *testing.T, r *Reader, col int, q api.Test, l poslist.List) {
	t.Helper()
	if z := r.Zone(col); z != (api.Zone{}) {
		t.Fatalf("Zone(%d): %v", col, z)
	}
	if got, e := r.Scan(col, q, l); !reflect.DeepEqual(got, poslist.List{}) || e != api.ErrArg {
		t.Fatalf("Scan(%d, %v, %v..): %v, %d", col, q, l.Slice(0, 9), got, e)
	}
	if got, e := r.Gather(col, l); len(got) != 0 || e != api.ErrArg {
		t.Fatalf("Gather(%d, %v..): %v, %d", col, l.Slice(0, 9), got, e)
	}
	if hi, lo, e := r.Sum(col, l); hi != 0 || lo != 0 || e != api.ErrArg {
		t.Fatalf("Sum(%d, %v..): %d, %d, %d", col, l.Slice(0, 9), hi, lo, e)
	}
}
