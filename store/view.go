package store

import (
	"peristyle/api"
	"peristyle/device"
	"peristyle/epoch"
	"peristyle/jindex"
	"peristyle/poslist"
	"peristyle/segment"
	"peristyle/wos"
	"slices"
)

// View is a table as it is.
type View struct {
	content
	table   api.Table
	readers []*segment.Reader // of each projection; none: Store.View did not give the view
}

// twin is what views read of a file: the same blocks on a device of its own. They stay when those on the store's are free, and others need the room; as long as these are the file's, the twin is brought in step with them, so that what is spoilt there is told. That the power is off is told in either case.
type twin struct {
	d      *device.Device // the store's
	blocks []int          // of d, one behind the other
	own    *device.Device // nil: no view was taken
	laid   api.Segment    // as it lies on its own device
	parted bool           // the blocks of d are the file's no more
}

// viewOf is a view of a table with its rows. These are never changed: the view may have them as they are.
func viewOf(d *device.Device, t api.Table, c content) *View {
	v := &View{content: c, table: t}
	for _, f := range c.files {
		if f.twin.own == nil {
			f.twin.begin(d, f.Segment)
		}
		reader, _ := segment.Open(f.twin.own, f.twin.laid)
		v.readers = append(v.readers, reader)
	}
	return v
}

// begin lets a twin be that of a segment on a device.
func (t *twin) begin(d *device.Device, s api.Segment) {
	t.d, t.laid, t.laid.Cols = d, s, nil
	for _, refs := range s.Cols {
		refs = slices.Clone(refs)
		for k, ref := range refs {
			refs[k].At.First = len(t.blocks)
			for n := range ref.At.Count {
				t.blocks = append(t.blocks, ref.At.First+n)
			}
		}
		t.laid.Cols = append(t.laid.Cols, refs)
	}
	t.own, _ = device.New(max(1, len(t.blocks)))
}

// step brings a twin in step.
func (t *twin) step() {
	if t.d.Off() {
		// A device goes off at what a fuse breaks off.
		t.own.Fuse(0)
		t.own.Sync()
		return
	}
	t.own.Crash(nil)
	if t.parted {
		return
	}
	for at, from := range t.blocks {
		bytes, _ := t.d.Read(from)
		t.own.Write(at, bytes)
	}
	t.own.Sync()
}

// part lets a twin stay as it is: the blocks will be others'.
func (t *twin) part() {
	if t.own != nil {
		t.step()
	}
	t.parted = true
}

// Table is the table.
func (v *View) Table() api.Table {
	if !v.given() {
		return api.Table{}
	}
	return copiedTables([]api.Table{v.table})[0]
}

// Reader reads what was laid of a projection.
func (v *View) Reader(p int) *segment.Reader {
	if !v.has(p) {
		return nil
	}
	v.files[p].twin.step()
	return v.readers[p]
}

// Order is which row stands where in a projection.
func (v *View) Order(p int) []int {
	if !v.has(p) {
		return nil
	}
	return slices.Clone(v.files[p].order)
}

// Visible are the places of a projection whose rows are seen in an epoch.
func (v *View) Visible(p, e int) (poslist.List, api.Errno) {
	if !v.has(p) {
		return poslist.List{}, api.ErrArg
	}
	seen, errno := epoch.Visible(v.born, v.marks, e)
	if errno != api.OK {
		return poslist.List{}, errno
	}
	return jindex.Follow(inverse(v.files[p].order), seen)
}

// Write are the rows that are not laid yet.
func (v *View) Write() *wos.Store {
	if !v.given() {
		return nil
	}
	return v.written.Copy()
}

// given tells whether Store.View gave the view: each table has a projection.
func (v *View) given() bool { return v != nil && len(v.readers) > 0 }

// has tells whether there is a projection with that number.
func (v *View) has(p int) bool { return v.given() && p >= 0 && p < len(v.readers) }

// copiedTables are the same tables, with lists of their own.
func copiedTables(l []api.Table) []api.Table {
	made := slices.Clone(l)
	for k, t := range l {
		made[k].Columns = slices.Clone(t.Columns)
		made[k].Projections = slices.Clone(t.Projections)
		for n, p := range t.Projections {
			made[k].Projections[n].Cols = slices.Clone(p.Cols)
		}
	}
	return made
}
