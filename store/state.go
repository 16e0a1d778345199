package store

import (
	"iter"
	"peristyle/api"
	"peristyle/cell"
	"peristyle/device"
	"peristyle/epoch"
	"peristyle/extent"
	"peristyle/jindex"
	"peristyle/mover"
	"peristyle/poslist"
	"peristyle/schema"
	"peristyle/segment"
	"peristyle/wos"
	"slices"
)

// state is all that a store has to tell. No list in it is ever changed: what changes it puts others in their places, in a draft.
type state struct {
	clock    api.Clock
	tables   []api.Table
	contents []content // of each table its rows
}

// content is a table's rows.
type content struct {
	born    []api.Run  // when those came that are laid, by their numbers
	marks   []api.Mark // when those of them went that did
	files   []file     // of each projection what is laid
	written *wos.Store // the rows that are not laid
}

// file is what is laid of a projection.
type file struct {
	api.Segment
	order []int // at each place the row's number
	twin  *twin // what views read of it
}

// draft is a copy of a state, that is changed, with what is to be written for it.
type draft struct {
	state
	d      *device.Device
	room   *extent.Map    // which blocks are free, in the state that is sure as in the draft
	beside *device.Device // where segments are laid as long as the draft may still be refused; nil: none was
	freed  []file         // whose blocks are free when the draft is sure
	bytes  string         // of its state, when all is done
}

// first is the state at the beginning.
func first() state { return state{clock: epoch.First()} }

// copied is the same state, of which tables and contents can be replaced.
func (s state) copied() state {
	s.tables, s.contents = slices.Clone(s.tables), slices.Clone(s.contents)
	return s
}

// refs goes over all blocks of columns whose places are taken.
func (s state) refs() iter.Seq[api.Ref] {
	return func(yield func(api.Ref) bool) {
		for _, c := range s.contents {
			for _, ref := range slices.Concat(c.columns()...) {
				if !yield(ref) {
					return
				}
			}
		}
	}
}

// columns are all columns that are laid.
func (c content) columns() [][]api.Ref {
	var all [][]api.Ref
	for _, f := range c.files {
		all = append(all, f.Cols...)
	}
	return all
}

// laid is how many rows are laid: as many in each projection.
func (c content) laid() int { return c.files[0].Count }

// count is how many rows there are.
func (c content) count() int { return c.laid() + c.written.Count() }

// laidLives are the rows of a table that are laid, with their epochs, by their numbers.
func (s state) laidLives(d *device.Device, k int) ([]api.Live, api.Errno) {
	t, c := s.tables[k], s.contents[k]
	which := slices.IndexFunc(t.Projections, func(p api.Projection) bool { return schema.Super(t, p) })
	p, f := t.Projections[which], c.files[which]
	rows, errno := f.read(d, inverse(p.Cols))
	if errno != api.OK {
		return nil, errno
	}
	// The blocks tell the rows, the state in which order they stand: of what was laid together it is that of the rows.
	if own, _ := mover.Project(rows, p.Cols); !slices.Equal(segment.Order(own, p.Keys), f.order) {
		return nil, api.ErrCorrupt
	}
	return mover.Lives(rows, c.born, c.marks)
}

// agree tells whether zones tell the same of a table's columns in each projection: these have the same cells.
func (s state) agree(d *device.Device, k int) bool {
	known := map[int]api.Zone{}
	for n, f := range s.contents[k].files {
		reader, _ := segment.Open(d, f.Segment)
		for col, of := range s.tables[k].Projections[n].Cols {
			zone, found := known[of]
			if found && zone != reader.Zone(col) {
				return false
			}
			known[of] = reader.Zone(col)
		}
	}
	return true
}

// inverse tells at which place each of the numbers 0, 1 and so on stands.
func inverse(l []int) []int {
	turned, _ := jindex.Turned(l)
	return turned
}

// read are some columns of all rows, by their numbers.
func (f file) read(d *device.Device, cols []int) ([]api.Row, api.Errno) {
	reader, _ := segment.Open(d, f.Segment)
	all, _ := poslist.All(f.Count)
	stand, errno := reader.Rows(cols, all)
	if errno != api.OK {
		return nil, errno
	}
	rows := make([]api.Row, len(stand))
	for at, number := range f.order {
		rows[number] = stand[at]
	}
	return rows, api.OK
}

// none is a write store without rows.
func none() *wos.Store {
	written, _ := wos.New(api.MaxWrite)
	return written
}

// create makes a table.
func (n *draft) create(name string, columns []api.Column) api.Errno {
	tables, errno := schema.Create(n.tables, name, columns)
	if errno != api.OK {
		return errno
	}
	n.tables, n.contents = tables, append(n.contents, content{})
	return n.fill(len(tables)-1, nil)
}

// drop takes a table away.
func (n *draft) drop(name string) api.Errno {
	tables, errno := schema.Drop(n.tables, name)
	if errno != api.OK {
		return errno
	}
	k := schema.Find(n.tables, name)
	n.freed = append(n.freed, n.contents[k].files...)
	n.tables, n.contents = tables, slices.Delete(n.contents, k, k+1)
	return api.OK
}

// add makes one more projection of a table, of the rows that are laid.
func (n *draft) add(name string, p api.Projection) api.Errno {
	tables, errno := schema.Add(n.tables, name, p)
	if errno != api.OK {
		return errno
	}
	k := schema.Find(tables, name)
	lives, errno := n.laidLives(n.d, k)
	if errno != api.OK {
		return errno
	}
	rows, _, _ := mover.Vectors(lives)
	f, errno := n.build(tables[k], p, rows)
	if errno != api.OK {
		return errno
	}
	n.tables, n.contents[k].files = tables, slices.Concat(n.contents[k].files, []file{f})
	return api.OK
}

// remove takes one of a table's projections away.
func (n *draft) remove(name, projection string) api.Errno {
	tables, errno := schema.Remove(n.tables, name, projection)
	if errno != api.OK {
		return errno
	}
	k := schema.Find(tables, name)
	which := slices.IndexFunc(n.tables[k].Projections, func(p api.Projection) bool { return p.Name == projection })
	c := &n.contents[k]
	n.freed = append(n.freed, c.files[which])
	c.files = slices.Delete(slices.Clone(c.files), which, which+1)
	n.tables = tables
	return api.OK
}

// move lays all rows of a table, without those that no epoch sees that can be asked.
func (n *draft) move(name string) api.Errno {
	k := schema.Find(n.tables, name)
	if k < 0 {
		return api.ErrNone
	}
	lives, errno := n.laidLives(n.d, k)
	if errno != api.OK {
		return errno
	}
	return n.fill(k, mover.Merge(lives, n.contents[k].written.Lives(), n.clock.Low))
}

// insert lets rows of a table come.
func (n *draft) insert(name string, rows []api.Row) api.Errno {
	k := schema.Find(n.tables, name)
	if k < 0 {
		return api.ErrNone
	}
	if slices.ContainsFunc(rows, func(row api.Row) bool { return cell.Fits(row, n.tables[k].Columns) != api.OK }) {
		return api.ErrArg
	}
	if len(rows) > api.MaxBatch || n.contents[k].count()+len(rows) > api.MaxRows {
		return api.ErrLimit
	}
	written := n.contents[k].written.Copy()
	n.contents[k].written = written
	return written.Add(rows, n.clock.Now)
}

// delete lets rows of a table go, by their numbers.
func (n *draft) delete(name string, l poslist.List) api.Errno {
	k := schema.Find(n.tables, name)
	if k < 0 {
		return api.ErrNone
	}
	c := &n.contents[k]
	laid, rest := split(l, c.laid())
	marks, errno := epoch.Delete(c.marks, laid, n.clock.Now)
	if errno != api.OK {
		return errno
	}
	c.marks, c.written = marks, c.written.Copy()
	return c.written.Delete(rest, n.clock.Now)
}

// split are the numbers of a list below one, and how far the others are beyond it.
func split(l poslist.List, from int) (poslist.List, poslist.List) {
	var beyond []int
	for number := range l.Places() {
		if number >= from {
			beyond = append(beyond, number-from)
		}
	}
	rest, _ := poslist.From(beyond)
	return l.Slice(0, l.Rank(from)), rest
}

// advance begins the next epoch.
func (n *draft) advance() api.Errno {
	clock, errno := epoch.Advance(n.clock)
	n.clock = clock
	return errno
}

// raise lets epochs below one be asked no more.
func (n *draft) raise(low int) api.Errno {
	clock, errno := epoch.Raise(n.clock, low)
	n.clock = clock
	return errno
}

// fill lays lives as all that a table has.
func (n *draft) fill(k int, lives []api.Live) api.Errno {
	rows, born, marks := mover.Vectors(lives)
	c := content{born: born, marks: marks, written: none()}
	for _, p := range n.tables[k].Projections {
		f, errno := n.build(n.tables[k], p, rows)
		if errno != api.OK {
			return errno
		}
		c.files = append(c.files, f)
	}
	n.freed = append(n.freed, n.contents[k].files...)
	n.contents[k] = c
	return api.OK
}

// build lays rows for a projection.
func (n *draft) build(t api.Table, p api.Projection, rows []api.Row) (file, api.Errno) {
	if n.beside == nil {
		n.beside, _ = device.New(n.d.Size())
	}
	own, _ := mover.Project(rows, p.Cols)
	kinds, _ := mover.Kinds(t, p)
	laid, errno := segment.Build(n.beside, n.room, own, kinds, p.Keys)
	return file{laid, segment.Order(own, p.Keys), &twin{}}, errno
}
