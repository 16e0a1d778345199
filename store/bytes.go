package store

import (
	"peristyle/api"
	"peristyle/cell"
	"peristyle/epoch"
	"peristyle/extent"
	"peristyle/jindex"
	"peristyle/mover"
	"peristyle/poslist"
	"peristyle/runs"
	"peristyle/schema"
	"peristyle/segment"
	"peristyle/vint"
	"peristyle/wos"
	"slices"
	"strings"
)

// What a deed does: what is laid anew at once is none of them.
const (
	doInsert = 1 + iota
	doDelete
	doAdvance
	doRaise
)

// deed is what a record of the journal tells.
type deed struct {
	kind    int
	table   string
	rows    []api.Row    // of doInsert
	numbers poslist.List // of doDelete
	low     int          // of doRaise
}

// do does what was done, or is to be.
func (n *draft) do(one deed) api.Errno {
	switch one.kind {
	case doInsert:
		return n.insert(one.table, one.rows)
	case doDelete:
		return n.delete(one.table, one.numbers)
	case doAdvance:
		return n.advance()
	case doRaise:
		return n.raise(one.low)
	}
	return api.ErrArg
}

// put are the bytes of a deed that a draft did: its rows are such as may be.
func (one deed) put() string {
	var s strings.Builder
	s.WriteString(vint.Put(one.kind))
	switch one.kind {
	case doInsert:
		s.WriteString(sized(one.table) + vint.Put(len(one.rows)))
		for _, row := range one.rows {
			bytes, _ := cell.Put(row)
			s.WriteString(bytes)
		}
	case doDelete:
		s.WriteString(sized(one.table) + vint.PutAll(bounds(one.numbers)))
	case doRaise:
		s.WriteString(vint.Put(one.low))
	}
	return s.String()
}

// takeDeed is the deed whose bytes are these; whether it can be done is asked when it is.
func takeDeed(s string) (deed, api.Errno) {
	r := &reader{rest: s}
	one := deed{kind: r.number()}
	switch one.kind {
	case doInsert:
		one.table = r.text()
		for range r.upTo(api.MaxBatch) {
			one.rows = append(one.rows, take(r, cell.Take))
		}
	case doDelete:
		one.table, one.numbers = r.text(), listOf(r, take(r, vint.TakeAll))
	case doRaise:
		one.low = r.number()
	}
	return one, r.done()
}

// bounds are those of a list's spans, one behind the other.
func bounds(l poslist.List) []int {
	var all []int
	for _, span := range l.Spans() {
		all = append(all, span.Lo, span.Hi)
	}
	return all
}

// listOf is the list of spans with these bounds.
func listOf(r *reader, all []int) poslist.List {
	if len(all)%2 != 0 {
		r.failed = true
		return poslist.List{}
	}
	var spans []api.Span
	for pair := range slices.Chunk(all, 2) {
		spans = append(spans, api.Span{Lo: pair[0], Hi: pair[1]})
	}
	l, errno := poslist.Best(spans)
	r.ask(errno == api.OK)
	return l
}

// put are a state's bytes; of what was removed there is nothing among them.
func (s state) put() string {
	var all strings.Builder
	tables, _ := schema.Put(s.tables)
	all.WriteString(vint.Put(s.clock.Now) + vint.Put(s.clock.Low) + tables)
	for k, c := range s.contents {
		born, _ := runs.Put(c.born)
		marks, _ := epoch.Put(c.marks)
		written, _ := wos.Put(c.written.Lives())
		all.WriteString(vint.Put(c.laid()) + sized(born) + marks + written)
		for n, f := range c.files {
			all.WriteString(f.put(s.tables[k].Projections[n]))
		}
	}
	return all.String()
}

// put are the bytes of what is laid of a projection, beside what the projection and the count of its rows tell.
func (f file) put(p api.Projection) string {
	var all strings.Builder
	if p.Keys > 0 {
		order, _ := jindex.Put(f.order)
		all.WriteString(order)
	}
	for _, ref := range slices.Concat(f.Cols...) {
		zone, _ := cell.Put(api.Row{ref.Zone.Min, ref.Zone.Max})
		all.WriteString(vint.Put(ref.At.First) + vint.Put(ref.Bytes) + zone + vint.Put(ref.Zone.Nulls))
	}
	return all.String()
}

// takeState is the state whose bytes are these.
func takeState(bytes string) (state, api.Errno) {
	r := &reader{rest: bytes}
	s := state{clock: api.Clock{Now: r.number(), Low: r.number()}}
	r.ask(epoch.Check(s.clock) == api.OK)
	s.tables = take(r, schema.Take)
	for _, t := range s.tables {
		s.contents = append(s.contents, takeContent(r, t, s.clock.Now))
	}
	return s, r.done()
}

// takeContent takes a table's rows, up to the epoch that is now.
func takeContent(r *reader, t api.Table, now int) content {
	count := r.upTo(api.MaxRows)
	born, errno := runs.Take(r.text(), count)
	r.ask(errno == api.OK)
	c := content{born: born, marks: take(r, epoch.Take)}
	lives := take(r, wos.Take)
	r.ask(len(lives) <= api.MaxWrite && len(lives)+count <= api.MaxRows)
	r.ask(allHold(lives, func(life api.Live) bool { return cell.Fits(life.Row, t.Columns) == api.OK }))
	for _, p := range t.Projections {
		c.files = append(c.files, takeFile(r, t, p, count))
	}
	laid, errno := mover.Lives(make([]api.Row, count), c.born, c.marks)
	all := slices.Concat(laid, lives)
	r.ask(errno == api.OK && allHold(all, func(life api.Live) bool { return isUpTo(now, life) }))
	r.ask(slices.IsSortedFunc(all, func(a, b api.Live) int { return a.Born - b.Born }))
	if !r.failed {
		c.written = writtenOf(lives)
	}
	return c
}

// isUpTo tells whether a life may be in an epoch.
func isUpTo(now int, life api.Live) bool {
	return life.Born >= 1 && life.Born <= now && (life.Gone == 0 || life.Gone >= life.Born && life.Gone <= now)
}

// writtenOf is a store of rows that it has room for.
func writtenOf(lives []api.Live) *wos.Store {
	written := none()
	for at, life := range lives {
		written.Add([]api.Row{life.Row}, life.Born)
		if life.Gone != 0 {
			place, _ := poslist.From([]int{at})
			written.Delete(place, life.Gone)
		}
	}
	return written
}

// takeFile takes what is laid of a projection, of so many rows.
func takeFile(r *reader, t api.Table, p api.Projection, count int) file {
	// By no keys rows stand as they came: that order is not put.
	f := file{order: segment.Order(make([]api.Row, count), 0), twin: &twin{}}
	if p.Keys > 0 {
		f.order = take(r, func(s string) ([]int, int, api.Errno) { return jindex.Take(s, count) })
	}
	kinds, _ := mover.Kinds(t, p)
	f.Segment = api.Segment{Kinds: kinds, Keys: p.Keys, Count: count, Cols: make([][]api.Ref, len(kinds))}
	for col := range f.Cols {
		for first := 0; first < count; first += api.BlockCells {
			f.Cols[col] = append(f.Cols[col], takeRef(r, min(api.BlockCells, count-first), t.Columns[p.Cols[col]]))
		}
	}
	r.ask(segment.Check(f.Segment) == api.OK)
	return f
}

// takeRef takes where a block of so many cells of a column lies, and what is known of them.
func takeRef(r *reader, count int, column api.Column) api.Ref {
	first, bytes, ends := r.number(), r.number(), take(r, cell.Take)
	if r.ask(len(ends) == 2); r.failed {
		return api.Ref{}
	}
	zone := api.Zone{Min: ends[0], Max: ends[1], Nulls: r.upTo(count), Count: count}
	r.ask(isOf(column, zone))
	return api.Ref{At: api.Extent{First: first, Count: extent.For(bytes)}, Bytes: bytes, Zone: zone}
}

// isOf tells whether a zone may be that of cells that fit a column: what is read of a block is held against its zone, so that all cells fit, if this does.
func isOf(column api.Column, z api.Zone) bool {
	if z.Nulls > 0 && !column.Null {
		return false
	}
	if z.Nulls == z.Count {
		return z.Min == api.Cell{} && z.Max == api.Cell{}
	}
	column.Null = false
	fit := cell.Fits(api.Row{z.Min, z.Max}, []api.Column{column, column}) == api.OK
	return fit && (z.Min == z.Max || z.Count-z.Nulls > 1 && cell.Compare(z.Min, z.Max) < 0)
}

// allHold tells whether each one of a list holds.
func allHold[T any](l []T, holds func(one T) bool) bool {
	return !slices.ContainsFunc(l, func(one T) bool { return !holds(one) })
}

// sized are bytes behind how many they are.
func sized(s string) string { return vint.Put(len(s)) + s }

// reader takes bytes from the front, one thing behind the other; when one is not there it has failed, and takes nothing any more.
type reader struct {
	rest   string
	failed bool
}

// ask lets the reader fail, where what must hold does not.
func (r *reader) ask(holds bool) { r.failed = r.failed || !holds }

// done tells whether all that was asked held, and nothing is left.
func (r *reader) done() api.Errno {
	if r.failed || r.rest != "" {
		return api.ErrCorrupt
	}
	return api.OK
}

// take takes what bytes begin with.
func take[T any](r *reader, from func(s string) (T, int, api.Errno)) T {
	var one T
	if r.failed {
		return one
	}
	made, used, errno := from(r.rest)
	if r.ask(errno == api.OK); r.failed {
		return one
	}
	r.rest = r.rest[used:]
	return made
}

// number takes one, whichever it is.
func (r *reader) number() int { return take(r, vint.Take) }

// upTo takes a number of 0 to most; where there is none it is 0.
func (r *reader) upTo(most int) int {
	n := r.number()
	if r.ask(n >= 0 && n <= most); r.failed {
		return 0
	}
	return n
}

// text takes bytes behind how many they are.
func (r *reader) text() string {
	count := r.upTo(len(r.rest))
	return take(r, func(s string) (string, int, api.Errno) {
		if count > len(s) {
			return "", 0, api.ErrCorrupt
		}
		return s[:count], count, api.OK
	})
}
