package store

import (
	"peristyle/api"
	"peristyle/device"
	"peristyle/epoch"
	"peristyle/jindex"
	"peristyle/poslist"
	"peristyle/segment"
	"peristyle/wos"
	"slices"
)

// View is a table as it is.
type View struct {
	content
	table   api.Table
	readers []*segment.Reader // of each projection; none: Store.View did not give the view
}

// viewOf is a view of a table with its rows. These are never changed: the view may have them as they are.
func viewOf(d *device.Device, t api.Table, c content) *View {
	v := &View{content: c, table: t}
	for _, f := range c.files {
		reader, _ := segment.Open(d, f.Segment)
		v.readers = append(v.readers, reader)
	}
	return v
}

// Table is the table.
func (v *View) Table() api.Table {
	if !v.given() {
		return api.Table{}
	}
	return copiedTables([]api.Table{v.table})[0]
}

// Reader reads what was laid of a projection.
func (v *View) Reader(p int) *segment.Reader {
	if !v.has(p) {
		return nil
	}
	return v.readers[p]
}

// Order is which row stands where in a projection.
func (v *View) Order(p int) []int {
	if !v.has(p) {
		return nil
	}
	return slices.Clone(v.files[p].order)
}

// Visible are the places of a projection whose rows are seen in an epoch.
func (v *View) Visible(p, e int) (poslist.List, api.Errno) {
	if !v.has(p) {
		return poslist.List{}, api.ErrArg
	}
	seen, errno := epoch.Visible(v.born, v.marks, e)
	if errno != api.OK {
		return poslist.List{}, errno
	}
	return jindex.Follow(inverse(v.files[p].order), seen)
}

// Write are the rows that are not laid yet.
func (v *View) Write() *wos.Store {
	if !v.given() {
		return nil
	}
	return v.written.Copy()
}

// given tells whether Store.View gave the view: each table has a projection.
func (v *View) given() bool { return v != nil && len(v.readers) > 0 }

// has tells whether there is a projection with that number.
func (v *View) has(p int) bool { return v.given() && p >= 0 && p < len(v.readers) }

// copiedTables are the same tables, with lists of their own.
func copiedTables(l []api.Table) []api.Table {
	made := slices.Clone(l)
	for k, t := range l {
		made[k].Columns = slices.Clone(t.Columns)
		made[k].Projections = slices.Clone(t.Projections)
		for n, p := range t.Projections {
			made[k].Projections[n].Cols = slices.Clone(p.Cols)
		}
	}
	return made
}
