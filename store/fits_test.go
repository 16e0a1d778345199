package store

import (
	"fmt"
	"peristyle/api"
	"peristyle/block"
	"peristyle/cell"
	"peristyle/check"
	"peristyle/device"
	"peristyle/journal"
	"peristyle/slots"
	"peristyle/vint"
	"slices"
	"strings"
	"testing"
)

// St1: states, records and blocks whose sums are right, and which no calls can have written

// spoilt lets a block, or some in a row, have other bytes, noughts behind.
func spoilt(t *testing.T, d *device.Device, at api.Extent, s string) {
	t.Helper()
	s += strings.Repeat("\x00", at.Count*128-len(s))
	for k := range at.Count {
		if errno := d.Spoil(at.First+k, s[128*k:128*(k+1)]); errno != api.OK {
			t.Fatal(errno)
		}
	}
}

// relaid lets the state that was laid last have other bytes, with their sum; the turn is the same, so that the records are those of it.
func relaid(t *testing.T, d *device.Device, bytes string) {
	t.Helper()
	_, _, turn, errno := slots.Read(d)
	if errno != api.OK {
		t.Fatal(errno)
	}
	at := regionsOf(d.Size()).state(turn, len(bytes))
	spoilt(t, d, at, bytes)
	d.Spoil(turn%2, slots.Slot(at, turn, bytes))
}

// loose is the state that was laid last, of which all can be changed.
func loose(t *testing.T, d *device.Device) state {
	t.Helper()
	bytes, _, _, errno := slots.Read(d)
	if errno != api.OK {
		t.Fatal(errno)
	}
	s, errno := takeState(bytes)
	if errno != api.OK {
		t.Fatal(errno)
	}
	return s
}

// isToldIn opens a device: Open tells that it is corrupt, or Lives of t does, where that is said; and nothing panics.
func isToldIn(t *testing.T, what string, d *device.Device, byLives bool) {
	t.Helper()
	s, errno := Open(d)
	if errno != api.OK {
		if s != nil || errno != api.ErrCorrupt {
			t.Errorf("%s: Open: %v, %d", what, s, errno)
		}
		return
	}
	l, laid, errno := s.Lives("t")
	if !byLives || l != nil || laid != 0 || errno != api.ErrCorrupt {
		t.Errorf("%s: Lives: %v, %d, %d", what, l, laid, errno)
	}
	for _, c := range []call{moves("t"), adds("t", "w", 1, 0)} {
		if errno := c.on(s); errno != api.ErrCorrupt {
			t.Errorf("%s: %s: %d", what, c.name, errno)
		}
	}
	answersAnything(s)
}

// ways are those in which rows lie: laid, as a state tells of them, and journaled.
func ways() map[string][]call {
	return map[string][]call{"laid": {moves("t")}, "not laid": {creates("u", intCol("a"))}, "journaled": nil}
}

// A null where none may be, however it lies: the column is turned, so that it takes none.
func TestNullsWhereNoneMayBe(t *testing.T) {
	full := api.Row{num(1), txt("x"), num(2)}
	for way, calls := range ways() {
		for col := range 3 {
			for _, at := range []int{0, 1, 69} {
				p := made(t, 600, creates("t", nullCol("a", api.Int), nullCol("b", api.Text), nullCol("c", api.Int)), adds("t", "p", 2, 1, 0), adds("t", "q", 1, 2), creates("w", intCol("a")))
				rows := slices.Repeat([]api.Row{full}, 70)
				rows[at] = slices.Clone(full)
				rows[at][col] = api.Cell{}
				p.do(inserts("t", rows[:64]...), inserts("t", rows[64:]...))
				p.do(calls...)
				p.same(way)
				for turned := range 3 {
					s := loose(t, p.d)
					s.tables[0].Columns[turned].Null = false
					d := copyOf(t, p.d)
					relaid(t, d, s.put())
					what := fmt.Sprintf("row %d %s, null %d, column %d", at, way, col, turned)
					if turned == col {
						isToldIn(t, what, d, false)
					} else if l, _, errno := opened(t, d).Lives("t"); errno != api.OK || !sameLives(l, p.m.lives[0]) {
						// The columns take no nulls, and have none: that can have been.
						t.Error(what, errno)
					}
				}
			}
		}
	}
}

// Likewise of nulls alone, of which a zone has no ends.
func TestNullsAlone(t *testing.T) {
	for way, calls := range ways() {
		p := made(t, 300, creates("t", nullCol("a", api.Int), nullCol("b", api.Text)), inserts("t", slices.Repeat([]api.Row{{{}, {}}}, 64)...), inserts("t", api.Row{{}, txt("x")}))
		p.do(calls...)
		for col := range 2 {
			s := loose(t, p.d)
			s.tables[0].Columns[col].Null = false
			d := copyOf(t, p.d)
			relaid(t, d, s.put())
			isToldIn(t, fmt.Sprint(way, col), d, false)
		}
	}
}

// A column that is turned to the other kind; of nulls alone the blocks tell it.
func TestColumnsOfTheOtherKind(t *testing.T) {
	for way, calls := range ways() {
		p := made(t, 300, creates("t", nullCol("a", api.Int), nullCol("b", api.Text)), adds("t", "p", 1, 1), inserts("t", api.Row{num(1), txt("x")}, api.Row{num(2), {}}, api.Row{{}, txt("y")}))
		p.do(calls...)
		for col := range 2 {
			s := loose(t, p.d)
			s.tables[0].Columns[col].Kind = api.Int + api.Text - s.tables[0].Columns[col].Kind
			d := copyOf(t, p.d)
			relaid(t, d, s.put())
			isToldIn(t, fmt.Sprint(way, col), d, false)
		}
	}
	p := made(t, 300, creates("t", nullCol("a", api.Int)), inserts("t", api.Row{{}}, api.Row{{}}), moves("t"))
	s := loose(t, p.d)
	s.tables[0].Columns[0].Kind = api.Text
	relaid(t, p.d, s.put())
	isToldIn(t, "nulls alone", p.d, true)
}

// longText are the bytes of a row of a number and a text of one byte more than may be.
const longText = "\x02\x01\x0a\x02\x21"

// misfits are the bytes of rows that fit not a number and a text, neither of which may be null.
func misfits(t *testing.T) []string {
	var l []string
	for _, row := range []api.Row{
		nil, {{}}, {{}, {}}, {{}, txt("x")}, {num(5), {}}, {num(5)}, {txt("x")}, {num(5), num(5)}, {txt("x"), txt("x")}, {txt("x"), num(5)},
		{num(5), txt("x"), {}}, {num(5), txt("x"), num(5)}, {num(5), txt("x"), txt("x")}, slices.Repeat(api.Row{num(5)}, 255),
	} {
		s, errno := cell.Put(row)
		if errno != api.OK {
			t.Fatal(errno)
		}
		l = append(l, s)
	}
	// Cells that are none: of a kind that there is not, and of a text that is too long.
	return append(l, "\x02\x03\x02\x01x", "\x02\x01\x0a\x03", "\x02\xff\x02\x01x", longText+xs(33), "\x02\x01\x0a\x02\xff"+xs(255))
}

// fitting is a row that fits, by which its bytes are found.
func fitting() (api.Row, string) {
	row := api.Row{num(12345678901), txt("it is here")}
	s, _ := cell.Put(row)
	return row, s
}

// Rows that are not laid, and fit not.
func TestMisfitsInAState(t *testing.T) {
	row, own := fitting()
	p := made(t, 300, creates("t", intCol("a"), textCol("b")), inserts("t", row), creates("u", two()...))
	bytes, _, _, _ := slots.Read(p.d)
	if strings.Count(bytes, own) != 1 {
		t.Fatal("the row is not found")
	}
	for _, s := range misfits(t) {
		d := copyOf(t, p.d)
		relaid(t, d, strings.Replace(bytes, own, s, 1))
		isToldIn(t, fmt.Sprintf("%q", s), d, false)
	}
	other, _ := cell.Put(api.Row{num(5), txt(xs(32))})
	relaid(t, p.d, strings.Replace(bytes, own, other, 1))
	if l, laid, errno := opened(t, p.d).Lives("t"); errno != api.OK || laid != 0 || len(l) != 1 || !slices.Equal(l[0].Row, api.Row{num(5), txt(xs(32))}) {
		t.Error(l, laid, errno)
	}
}

// Rows of records, that fit not; of two, and of the last of many.
func TestMisfitsInARecord(t *testing.T) {
	row, own := fitting()
	for _, count := range []int{1, 2, 20} {
		p := made(t, 600, creates("t", intCol("a"), textCol("b")), advances())
		one := deed{kind: doInsert, table: "t", rows: append(pairs(0, 3)[:min(count-1, 3)], slices.Repeat([]api.Row{{num(1), txt("y")}}, max(0, count-4))...)}
		one.rows = append(one.rows, row)
		for _, r := range one.rows {
			if r[1] == (api.Cell{}) {
				r[1] = txt("y")
			}
		}
		record := one.put()
		for k, s := range append(misfits(t), own) {
			d := copyOf(t, p.d)
			j, errno := journal.Open(d, regionsOf(600).journal, p.s.turn)
			if errno != api.OK || j.Add(strings.Replace(record, own, s, 1)) != api.OK {
				t.Fatal(errno)
			}
			if k < len(misfits(t)) {
				isToldIn(t, fmt.Sprintf("%d rows, %q", count, s), d, false)
			} else if l, _, errno := opened(t, d).Lives("t"); errno != api.OK || len(l) != len(one.rows) {
				t.Error(count, l, errno)
			}
		}
	}
}

// rawText is a block of so many texts as they are, of which the last one is too long.
func rawText(count int) string {
	return check.Seal(string([]byte{api.Text, api.CodePlain, byte(count), 0}) + strings.Repeat("\x01y", count-1) + "\x21" + xs(33))
}

// zoneOf is the zone of cells.
func zoneOf(cells []api.Cell) api.Zone {
	z := api.Zone{Count: len(cells)}
	for _, c := range cells {
		switch {
		case c == api.Cell{}:
			z.Nulls++
		case z.Min == api.Cell{}:
			z.Min, z.Max = c, c
		case compared(c, z.Min) < 0:
			z.Min = c
		case compared(c, z.Max) > 0:
			z.Max = c
		}
	}
	return z
}

// misfitBlocks are such as fit not a column of three cells of a kind, with the zones of their cells.
func misfitBlocks(t *testing.T, kind int) map[string]api.Zone {
	t.Helper()
	l := map[string]api.Zone{}
	of := map[int][]api.Cell{api.Int: {num(1), num(2), num(3)}, api.Text: {txt("a"), txt("b"), txt("c")}}
	own, other := of[kind], of[api.Int+api.Text-kind]
	put := func(kind int, cells ...api.Cell) {
		s, _, errno := block.Best(cells, kind)
		if errno != api.OK {
			t.Fatal(errno)
		}
		l[s] = zoneOf(cells)
	}
	put(kind, own[0], api.Cell{}, own[2])
	put(kind, api.Cell{}, own[0], own[2])
	put(kind, api.Cell{}, api.Cell{}, api.Cell{})
	put(kind, own[0], own[2])
	put(kind, own[0], own[1], own[1], own[2])
	put(kind, own[0])
	put(api.Int+api.Text-kind, other...)
	put(api.Int+api.Text-kind, api.Cell{}, api.Cell{}, api.Cell{})
	if kind == api.Text {
		l[rawText(3)] = api.Zone{Min: txt(xs(32)), Max: txt("y"), Count: 3}
	}
	return l
}

// Blocks of columns that fit not, each with its sum, and as their ref tells of them, or as it told ahead.
func TestMisfitsInABlock(t *testing.T) {
	for _, name := range []string{"super", "p"} {
		p := made(t, 300, creates("t", intCol("a"), textCol("b")), inserts("t", api.Row{num(1), txt("c")}, api.Row{num(3), txt("a")}, api.Row{num(2), txt("b")}), adds("t", "p", 1, 1, 0), moves("t"))
		if name == "p" {
			p.do(removes("t", "super"))
		}
		for col, kind := range p.s.contents[0].files[0].Kinds {
			for s, zone := range misfitBlocks(t, kind) {
				for told := range 2 {
					d := copyOf(t, p.d)
					was := loose(t, d)
					ref := &was.contents[0].files[0].Cols[col][0]
					spoilt(t, d, ref.At, s)
					ref.Bytes = len(s)
					if told == 1 {
						ref.Zone = zone
					}
					relaid(t, d, was.put())
					isToldIn(t, fmt.Sprintf("%s, column %d, %q, %d", name, col, s, told), d, true)
				}
			}
		}
	}
}

// A state of one row more, or fewer, than its blocks have.
func TestAsManyRowsAsBlocksHave(t *testing.T) {
	for _, count := range []int{1, 3, 63, 64, 65} {
		p := made(t, 600, creates("t", intCol("a"), textCol("b")), adds("t", "p", 0, 1))
		for k := 0; k < count; k += 64 {
			p.do(inserts("t", slices.Repeat([]api.Row{{num(1), txt("x")}}, min(64, count-k))...))
		}
		p.do(moves("t"))
		for _, other := range []int{count - 1, count + 1} {
			if other == 0 || (other-1)/64 != (count-1)/64 {
				continue
			}
			s := loose(t, p.d)
			s.contents[0].born[0].Count = other
			for k := range s.contents[0].files {
				s.contents[0].files[k].Count = other
			}
			d := copyOf(t, p.d)
			relaid(t, d, s.put())
			isToldIn(t, fmt.Sprint(count, other), d, true)
		}
	}
}

// Zones that no cells of a column have.
func TestZonesThatMayNotBe(t *testing.T) {
	p := made(t, 600, creates("t", intCol("a"), nullCol("b", api.Text)), inserts("t", api.Row{num(1), txt("b")}, api.Row{num(3), {}}, api.Row{num(2), txt("d")}), moves("t"))
	for _, one := range []struct {
		col  int
		zone api.Zone
		may  bool
	}{
		{0, api.Zone{Min: num(1), Max: num(3)}, true}, {0, api.Zone{Min: num(3), Max: num(3)}, true}, {0, api.Zone{Min: num(least), Max: num(great)}, true},
		{0, api.Zone{Min: num(3), Max: num(1)}, false}, {0, api.Zone{Min: num(1), Max: num(3), Nulls: 1}, false}, {0, api.Zone{Nulls: 3}, false}, {0, api.Zone{}, false}, {0, api.Zone{Max: num(3)}, false}, {0, api.Zone{Min: num(3)}, false},
		{0, api.Zone{Min: num(1), Max: txt("a")}, false}, {0, api.Zone{Min: txt("a"), Max: num(1)}, false}, {0, api.Zone{Min: txt("a"), Max: txt("b")}, false},
		{1, api.Zone{Min: txt("a"), Max: txt("b")}, true}, {1, api.Zone{Min: txt("a"), Max: txt("b"), Nulls: 1}, true}, {1, api.Zone{Min: txt("a"), Max: txt("a"), Nulls: 2}, true}, {1, api.Zone{Nulls: 3}, true},
		{1, api.Zone{Min: txt("a"), Max: txt("b"), Nulls: 2}, false}, {1, api.Zone{Min: txt("a"), Max: txt("b"), Nulls: 3}, false}, {1, api.Zone{Min: txt("a"), Max: txt("a"), Nulls: 3}, false}, {1, api.Zone{Max: txt("a"), Nulls: 3}, false},
		{1, api.Zone{Nulls: 2}, false}, {1, api.Zone{}, false}, {1, api.Zone{Min: txt("b"), Max: txt("a")}, false}, {1, api.Zone{Min: num(1), Max: num(2)}, false}, {1, api.Zone{Min: num(1), Max: num(1), Nulls: 2}, false},
	} {
		s := loose(t, p.d)
		s.contents[0].files[0].Cols[one.col][0].Zone = one.zone
		d := copyOf(t, p.d)
		relaid(t, d, s.put())
		o, errno := Open(d)
		if one.may != (errno == api.OK) || !one.may && (o != nil || errno != api.ErrCorrupt) {
			t.Errorf("%v: %d", one, errno)
		}
	}
}

// Projections whose zones tell of other cells of a column.
func TestProjectionsThatDisagree(t *testing.T) {
	p := made(t, 600, creates("t", intCol("a"), nullCol("b", api.Int), textCol("c")), adds("t", "p", 1, 1, 2), adds("t", "q", 1, 1, 0))
	rows := triples(0, 64)
	for k := range rows {
		rows[k] = api.Row{num(k), rows[k][0], rows[k][1]}
	}
	p.do(inserts("t", rows...), inserts("t", rows[:9]...), moves("t"))
	for n := range 3 {
		for col := range p.s.contents[0].files[n].Cols {
			for _, change := range []func(z *api.Zone){
				func(z *api.Zone) { z.Min = []api.Cell{{}, num(-99), txt("")}[z.Min.Kind] }, func(z *api.Zone) { z.Max = []api.Cell{{}, num(99), txt("zz")}[z.Min.Kind] },
				func(z *api.Zone) { z.Nulls++ }, func(z *api.Zone) { z.Nulls-- },
			} {
				s := loose(t, p.d)
				change(&s.contents[0].files[n].Cols[col][1].Zone)
				d := copyOf(t, p.d)
				relaid(t, d, s.put())
				if o, errno := Open(d); o != nil || errno != api.ErrCorrupt {
					t.Errorf("projection %d, column %d: %d", n, col, errno)
				}
			}
		}
	}
}

// Rows that came ahead of others stand ahead of them.
func TestRowsInOrderOfTheirEpochs(t *testing.T) {
	p := made(t, 600, creates("t", intCol("a")), inserts("t", ints(0, 3)...), advances(), advances(), inserts("t", ints(3, 2)...), moves("t"), advances(), inserts("t", ints(5, 1)...), advances(), inserts("t", ints(6, 1)...), creates("u", intCol("a")))
	row := nums(1)
	for _, one := range []struct {
		born []api.Run
		came []int
		may  bool
	}{
		{[]api.Run{{Val: 1, Count: 3}, {Val: 3, First: 3, Count: 2}}, []int{4, 5}, true}, {[]api.Run{{Val: 2, Count: 5}}, []int{2, 2}, true}, {[]api.Run{{Val: 2, Count: 5}}, []int{5}, true},
		{[]api.Run{{Val: 3, Count: 3}, {Val: 1, First: 3, Count: 2}}, []int{4, 5}, false}, {[]api.Run{{Val: 1, Count: 3}, {Val: 3, First: 3, Count: 1}, {Val: 2, First: 4, Count: 1}}, nil, false},
		{[]api.Run{{Val: 2, Count: 5}}, []int{1}, false}, {[]api.Run{{Val: 2, Count: 5}}, []int{2, 3, 2}, false}, {[]api.Run{{Val: 5, Count: 5}}, []int{4, 5}, false},
	} {
		s := loose(t, p.d)
		s.contents[0].born = one.born
		var l []api.Live
		for _, e := range one.came {
			l = append(l, api.Live{Row: row, Born: e})
		}
		s.contents[0].written = writtenOf(l)
		d := copyOf(t, p.d)
		relaid(t, d, s.put())
		o, errno := Open(d)
		if one.may != (errno == api.OK) || !one.may && (o != nil || errno != api.ErrCorrupt) {
			t.Errorf("%v: %d", one, errno)
		}
	}
}

// An order that is not that in which the rows stand, as their keys are, and of those that are the same as they came.
func TestOrdersThatAreNotOfTheRows(t *testing.T) {
	p := made(t, 600, creates("t", intCol("a"), textCol("b")), adds("t", "p", 1, 0, 1), inserts("t", api.Row{num(5), txt("a")}, api.Row{num(3), txt("b")}, api.Row{num(5), txt("c")}, api.Row{num(4), txt("d")}), moves("t"), removes("t", "super"))
	if l := p.s.contents[0].files[0].order; !slices.Equal(l, []int{1, 3, 0, 2}) {
		t.Fatal(l)
	}
	for _, order := range [][]int{{1, 3, 0, 2}, {3, 1, 0, 2}, {0, 1, 2, 3}, {2, 0, 1, 3}, {1, 3, 2, 0}, {0, 1, 3, 2}} {
		s := loose(t, p.d)
		s.contents[0].files[0].order = order
		d := copyOf(t, p.d)
		relaid(t, d, s.put())
		l, _, errno := opened(t, d).Lives("t")
		// Other numbers of rows of which the keys tell the same order may be.
		if may := order[2] < order[3]; may && (errno != api.OK || len(l) != 4) || !may && (l != nil || errno != api.ErrCorrupt) {
			t.Error(order, l, errno)
		}
	}
}

// The bytes of a state as the issue has them: a column that takes no nulls, and a row that is laid and is one.
func TestARowThatIsANull(t *testing.T) {
	p := made(t, 300, creates("t", nullCol("a", api.Int)), inserts("t", api.Row{{}}), moves("t"))
	bytes, _, _, _ := slots.Read(p.d)
	column := sized("a") + vint.Put(api.Int)
	if strings.Count(bytes, column+vint.Put(1)) != 1 {
		t.Fatalf("%q", bytes)
	}
	relaid(t, p.d, strings.Replace(bytes, column+vint.Put(1), column+vint.Put(0), 1))
	isToldIn(t, "a null", p.d, false)
}
