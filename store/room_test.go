package store

import (
	"fmt"
	"peristyle/api"
	"peristyle/poslist"
	"slices"
	"testing"
)

// limits are what a script of any calls keeps within.
type limits struct {
	tables, projections, columns, rows int
	long                               bool // names and texts as long as can be, numbers far apart
}

// named is a name with a number.
func (b limits) named(k int) string {
	if b.long {
		return fmt.Sprintf("name_%011d", k)
	}
	return fmt.Sprint("n", k)
}

// unused is a name that none of a list has.
func (b limits) unused(r *stirrer, has func(name string) bool) string {
	for {
		if name := b.named(r.below(12)); !has(name) {
			return name
		}
	}
}

func (r *stirrer) cell(c api.Column, long bool) api.Cell {
	switch {
	case c.Null && r.below(6) == 0:
		return api.Cell{}
	case c.Kind == api.Int && long:
		return num(r.below(1<<31)<<33 ^ r.below(1<<31)<<10 ^ r.below(1<<10))
	case c.Kind == api.Int:
		return num(r.below(7) - 3)
	case !long:
		return txt(xs(r.below(4)))
	}
	b := make([]byte, 32)
	for k := range b {
		b[k] = byte(r.below(256))
	}
	return txt(string(b))
}

func (r *stirrer) rows(columns []api.Column, count int, long bool) []api.Row {
	l := make([]api.Row, count)
	for k := range l {
		for _, c := range columns {
			l[k] = append(l[k], r.cell(c, long))
		}
	}
	return l
}

func (r *stirrer) creates(m *model, b limits) call {
	name := b.unused(r, func(name string) bool { return m.find(name) >= 0 })
	var columns []api.Column
	for k := range 1 + r.below(b.columns) {
		columns = append(columns, api.Column{Name: b.named(k), Kind: api.Int + r.below(2), Null: r.below(3) == 0})
	}
	if b.long {
		columns = nil
		for k := range b.columns {
			columns = append(columns, api.Column{Name: b.named(k), Kind: api.Text - r.below(8)/7, Null: r.below(9) == 0})
		}
	}
	return creates(name, columns...)
}

func (r *stirrer) adds(t api.Table, b limits) call {
	name := b.unused(r, func(name string) bool {
		return slices.ContainsFunc(t.Projections, func(p api.Projection) bool { return p.Name == name })
	})
	cols := mixed(r, from(0, len(t.Columns)))
	if r.below(3) > 0 && !b.long {
		cols = cols[:1+r.below(len(cols))]
	}
	return adds(t.Name, name, r.below(len(cols)+1), cols...)
}

// call is any, that leads beyond no bound.
func (r *stirrer) call(m *model, b limits) call {
	if len(m.tables) == 0 {
		return r.creates(m, b)
	}
	k := r.below(len(m.tables))
	t := m.tables[k]
	left := b.rows - m.rows()
	alive := m.alive(k)
	switch n := r.below(26); {
	case n < 2 && len(m.tables) < b.tables:
		return r.creates(m, b)
	case n == 2 && r.below(3) == 0:
		return drops(t.Name)
	case n < 6 && len(t.Projections) < b.projections:
		return r.adds(t, b)
	case n < 8:
		return removes(t.Name, one(r, t.Projections).Name)
	case n < 14 && left > 0:
		return inserts(t.Name, r.rows(t.Columns, 1+r.below(min(left, one(r, []int{1, 3, 9, 64}))), b.long)...)
	case n < 17 && len(alive) > 0:
		return deletes(t.Name, mixed(r, alive)[:1+r.below(len(alive))]...)
	case n < 20:
		return advances()
	case n < 22:
		return raises(m.clock.Low + r.below(m.clock.Now-m.clock.Low+1))
	}
	return moves(t.Name)
}

// Within the bounds there is room, by whatever calls.
func TestRoom(t *testing.T) {
	for seed := range 6 {
		t.Run(fmt.Sprint(seed), func(t *testing.T) {
			t.Parallel()
			r := stir(seed)
			p := made(t, 2000)
			b := limits{4, 3, 4, 100, seed < 4}
			for k := range 700 {
				c := r.call(p.m, b)
				p.try(c)
				if k%25 == 0 {
					p.same(c.name)
				}
				if k%100 == 99 {
					p.reopen()
				}
			}
			p.same("all calls")
		})
	}
}

// So it is behind whatever was done beyond the bounds.
func TestRoomBehindMore(t *testing.T) {
	for seed := range 4 {
		t.Run(fmt.Sprint(seed), func(t *testing.T) {
			t.Parallel()
			r := stir(100 + seed)
			p := made(t, 2000)
			within := limits{4, 3, 4, 100, true}
			full := 0
			for range 3 {
				for range 250 {
					if p.try(r.call(p.m, limits{8, 6, 8, 700, true})) == api.ErrFull {
						full++
					}
				}
				p.same("calls beyond the bounds")
				for len(p.m.tables) > 0 && mayBeFull(2000, p.m, p.m) {
					p.do(drops(p.m.tables[0].Name))
				}
				p.same("Drop")
				for range 250 {
					p.try(r.call(p.m, within))
				}
				p.reopen()
			}
			if full == 0 {
				t.Error("no call was refused")
			}
		})
	}
}

// The greatest tables that must have room: 100 rows of the longest texts, in 4 tables of 4 columns, each in 3 projections, moved again and again.
func TestRoomOfTheGreatest(t *testing.T) {
	for _, sizes := range [][]int{{25, 25, 25, 25}, {97, 1, 1, 1}, {91, 4, 4, 1}, {100, 0, 0, 0}, {65, 33, 1, 1}, {64, 36, 0, 0}, {50, 50, 0, 0}} {
		t.Run(fmt.Sprint(sizes), func(t *testing.T) {
			t.Parallel()
			r := stir(sizes[0])
			b := limits{4, 3, 4, 100, true}
			p := made(t, 2000)
			var columns []api.Column
			for k := range 4 {
				columns = append(columns, nullCol(b.named(k), api.Text))
			}
			for k, size := range sizes {
				name := b.named(k)
				p.do(creates(name, columns...), adds(name, b.named(7), 4, 3, 1, 2, 0), adds(name, b.named(8), 1, 1, 0, 2, 3))
				for ; size > 0; size -= 64 {
					p.do(advances(), inserts(name, full(r, min(64, size))...))
				}
				p.do(deletes(name, p.m.alive(k)[:sizes[k]/2]...))
			}
			p.same("Insert")
			for range 5 {
				for k := range mixed(r, sizes) {
					p.do(moves(b.named(k)), removes(b.named(k), b.named(7)), adds(b.named(k), b.named(7), 4, 3, 1, 2, 0), advances())
				}
			}
			p.same("Move")
			p.reopen()
		})
	}
}

// full are rows of four of the longest texts.
func full(r *stirrer, count int) []api.Row {
	return r.rows([]api.Column{textCol("a"), textCol("b"), textCol("c"), textCol("d")}, count, true)
}

// textBlocks is how many blocks a column's block of so many of the longest texts has.
func textBlocks(cells int) int { return (4 + 33*cells + 4 + 127) / 128 }

// column is how many blocks so many of the longest texts need, in how many extents, and how many the first and the last of these have.
func column(cells int) (int, int, int, int) {
	if cells == 0 {
		return 0, 0, 0, 0
	}
	if cells <= 64 {
		n := textBlocks(cells)
		return n, 1, n, n
	}
	all, extents, _, last := column(cells - 64)
	return all + textBlocks(64), extents + 1, textBlocks(64), last
}

// Of 2000 blocks those that are left to segments are as many as are needed, wherever others stand: an extent is laid at the beginning of a gap, so that there are never more gaps than extents that stood ahead, and one; if none of them has room, all of them are less than it.
func TestRoomByNumbers(t *testing.T) {
	need := 0
	const columns = 12 // of a table's projections
	for a := range 101 {
		for more := range 101 - a {
			for b := range 101 - a - more {
				for c := range min(b, 100-a-more-b) + 1 {
					d := min(c, 100-a-more-b-c)
					blocks, extents := 0, 0
					for _, rows := range []int{a, b, c, d} {
						n, k, _, _ := column(rows)
						blocks, extents = blocks+columns*n, extents+columns*k
					}
					made, _, first, last := column(a + more)
					for _, size := range []int{first, last} {
						need = max(need, blocks+columns*made-size+(size-1)*(extents+1)+1)
					}
				}
			}
		}
	}
	r := regionsOf(2000)
	if has := 2000 - r.segments; has < need || need != 1620 {
		t.Errorf("%d blocks, of which %d are needed", has, need)
	}
	if bytes := longestState(); (bytes+127)/128 != 146 || r.states[0].Count < 146 || r.states[1].Count < 146 {
		t.Errorf("%d bytes for states in %v", bytes, r.states)
	}
	if r.journal.Count < 1 || end(r.journal) != r.states[0].First || end(r.states[0]) != r.states[1].First {
		t.Error(r)
	}
}

// longestState is how many bytes a state has that has room: with a row laid in each table all refs are there, and rows that are not laid need most.
func longestState() int {
	b := limits{4, 3, 4, 100, true}
	r := stir(1)
	cols := from(0, 4)
	s := state{clock: api.Clock{Now: 1 << 40, Low: 1 << 40}}
	for k := range 4 {
		table := api.Table{Name: b.named(k)}
		for n := range 4 {
			table.Columns = append(table.Columns, nullCol(b.named(n), api.Text))
		}
		var c content
		for n := range 3 {
			table.Projections = append(table.Projections, api.Projection{Name: b.named(n), Cols: cols, Keys: 4})
			f := file{order: []int{0}}
			f.Count = 1
			for range 4 {
				ends := full(r, 1)[0]
				f.Cols = append(f.Cols, []api.Ref{{At: api.Extent{First: 1999, Count: 17}, Bytes: 2000, Zone: api.Zone{Min: ends[0], Max: ends[1], Nulls: 64, Count: 64}}})
			}
			c.files = append(c.files, f)
		}
		c.born = []api.Run{{Val: 1 << 40, Count: 1}}
		c.marks = []api.Mark{{At: 0, Gone: 1 << 40}}
		c.written = none()
		c.written.Add(full(r, 24), 1<<40)
		rest, _ := poslist.All(24)
		c.written.Delete(rest, 1<<40)
		s.tables, s.contents = append(s.tables, table), append(s.contents, c)
	}
	return len(s.put())
}

// On a device with less room, or beyond the bounds, each ErrFull leaves all as it was, behind a crash, too.
func TestLittleRoom(t *testing.T) {
	for _, blocks := range []int{100, 101, 128, 200, 400, 800, 1999, 2000, 4096} {
		t.Run(fmt.Sprint(blocks), func(t *testing.T) {
			t.Parallel()
			full, done := 0, 0
			for seed := range 3 {
				r := stir(200 + seed)
				p := made(t, blocks)
				b := limits{8, 6, 8, min(4096, blocks), seed > 0}
				for k := range 150 {
					ahead := copyOf(t, p.d)
					c := r.call(p.m, b)
					switch errno := p.try(c); errno {
					case api.OK:
						done++
					case api.ErrFull:
						full++
						p.same(c.name)
						fallthrough
					default:
						sameDevices(t, ahead, p.d)
					}
					if k%40 == 39 {
						p.same(c.name)
						p.reopen()
					}
				}
			}
			if done < 50 || full == 0 && blocks < 2000 {
				t.Error(done, "calls were done,", full, "refused")
			}
		})
	}
}

// A store whose state fills its region refuses more rows, and goes on with all that needs no more room.
func TestAStateThatFillsItsRegion(t *testing.T) {
	for _, blocks := range []int{100, 600, 2000} {
		r := stir(blocks)
		wide := []api.Column{textCol("a"), textCol("b"), textCol("c"), textCol("d"), textCol("e"), textCol("f"), textCol("g"), textCol("h")}
		p := made(t, blocks, creates("t", wide...), creates("u", two()...), adds("u", "by_b", 2, 1, 0), inserts("u", pairs(0, 4)...), moves("u"))
		for count := 64; count > 0; {
			if p.try(inserts("t", r.rows(wide, count, true)...)) != api.OK {
				count /= 2
			}
		}
		p.refuses(api.ErrFull, inserts("t", r.rows(wide, 1, true)...))
		p.reopen()
		p.refuses(api.ErrFull, inserts("t", r.rows(wide, 1, true)...))
		p.do(removes("u", "by_b"), drops("u"), advances(), advances())
		p.same("calls that need no room")
		p.do(drops("t"), creates("t", two()...), inserts("t", pairs(0, 4)...))
		p.reopen()
	}
}

// Rows that are more than a record holds.
func TestAGreatInsert(t *testing.T) {
	r := stir(8)
	p := made(t, 2000, creates("t", textCol("a"), textCol("b"), textCol("c"), textCol("d")), advances())
	p.do(inserts("t", full(r, 64)...))
	p.same("Insert")
	p.do(inserts("t", full(r, 36)...), deletesIn("t", 0, from(0, 100)))
	p.reopen()
}
