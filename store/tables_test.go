package store

import (
	"fmt"
	"peristyle/api"
	"slices"
	"testing"
)

// St2: Create, Drop, Add, Remove, Advance, Raise

// columnsOf are so many columns of numbers.
func columnsOf(count int) []api.Column {
	var l []api.Column
	for k := range count {
		l = append(l, intCol(fmt.Sprint("c", k)))
	}
	return l
}

func TestCreate(t *testing.T) {
	p := made(t, 4096)
	p.refuses(api.ErrArg, creates("", two()...))
	for _, name := range []string{"T", "1a", "_a", "a-b", "a b", xs(17), xs(300), "a\x00", "\xff"} {
		p.refuses(api.ErrArg, creates(name, two()...))
	}
	for _, columns := range [][]api.Column{nil, {}, columnsOf(9), columnsOf(1000), {intCol("a"), textCol("a")}, {intCol("")}, {{Name: "a"}}, {{Name: "a", Kind: 3}}, {{Name: "a", Kind: -1}}, {intCol("A")}, {intCol(xs(17))}} {
		p.refuses(api.ErrArg, creates("t", columns...))
	}
	for k, columns := range [][]api.Column{two(), columnsOf(1), columnsOf(8), {nullCol(xs(16), api.Text)}} {
		p.do(creates(fmt.Sprint("t", k), columns...))
		p.same("Create")
		p.refuses(api.ErrTwice, creates(fmt.Sprint("t", k), columns...))
		p.refuses(api.ErrTwice, creates("t0", columnsOf(8)...))
		// A name that is there, and columns that may not be.
		p.refuses(api.ErrArg, creates("t0", columnsOf(9)...))
	}
	for k := range 4 {
		p.do(creates(xs(13+k), columnsOf(2)...))
	}
	p.refuses(api.ErrLimit, creates("more", two()...))
	p.refuses(api.ErrTwice, creates("t0", two()...))
	p.refuses(api.ErrArg, creates("More", two()...))
	p.refuses(api.ErrArg, creates("more"))
	p.do(drops("t1"), creates("more", two()...))
	p.refuses(api.ErrLimit, creates("t1", two()...))
	p.reopen()
}

func TestDrop(t *testing.T) {
	p := made(t, 2000, scene()...)
	for _, name := range []string{"", "T", "nobody", xs(17), xs(1 << 16), "t\x00"} {
		p.refuses(api.ErrNone, drops(name))
	}
	for _, name := range []string{"u", "t", "empty"} {
		p.do(drops(name))
		p.same("Drop")
		p.refuses(api.ErrNone, drops(name))
		p.refuses(api.ErrNone, moves(name))
		p.refuses(api.ErrNone, inserts(name, pairs(0, 1)...))
	}
	p.reopen()
	p.refuses(api.ErrNone, drops("t"))
}

// A table that is created again is another one.
func TestATableThatIsCreatedAgain(t *testing.T) {
	p := made(t, 600, scene()...)
	p.do(drops("t"), creates("t", nullCol("z", api.Int)))
	p.same("Create")
	l, laid, errno := p.s.Lives("t")
	if len(l) != 0 || laid != 0 || errno != api.OK {
		t.Error(l, laid, errno)
	}
	p.refuses(api.ErrNone, deletes("t", 0))
	p.refuses(api.ErrNone, removes("t", "by_b"))
	p.refuses(api.ErrArg, inserts("t", pairs(0, 1)...))
	p.do(inserts("t", api.Row{{}}, nums(7)), moves("t"), deletes("t", 1))
	p.same("Insert")
	p.reopen()
}

// projections are those of a table of three columns that are worth adding.
func projections() []api.Projection {
	var l []api.Projection
	for _, cols := range [][]int{{0}, {1}, {2}, {0, 1, 2}, {2, 1, 0}, {1, 2}, {2, 0}} {
		for _, keys := range []int{0, 1, len(cols)} {
			p := api.Projection{Name: fmt.Sprint("p", len(l)), Cols: cols, Keys: keys}
			l = append(l, p)
		}
	}
	return l
}

func three() []api.Column {
	return []api.Column{nullCol("a", api.Int), textCol("b"), nullCol("c", api.Text)}
}

// triples are so many rows of three.
func triples(from, count int) []api.Row {
	l := make([]api.Row, count)
	for k := range l {
		n := from + k
		l[k] = api.Row{num(n * 13 % 7), txt(string([]byte{'a' + byte(n*5%3)})), txt(xs(n % 33))}
		if n%3 == 1 {
			l[k][0] = api.Cell{}
		}
		if n%5 == 2 {
			l[k][2] = api.Cell{}
		}
	}
	return l
}

func addsAs(table string, p api.Projection) call { return adds(table, p.Name, p.Keys, p.Cols...) }

func TestAdd(t *testing.T) {
	for _, which := range projections() {
		// Of no rows, of rows that are not laid, of laid rows alone, and of both; and rows that come behind it.
		for _, sizes := range [][2]int{{0, 0}, {0, 7}, {7, 0}, {20, 6}, {65, 1}} {
			p := made(t, 2000, creates("t", three()...), inserts("t", triples(0, min(64, sizes[0]))...), inserts("t", triples(64, max(0, sizes[0]-64))...), advances(), moves("t"), inserts("t", triples(70, sizes[1])...))
			if sizes[0] > 3 {
				p.do(deletes("t", 1, 2))
			}
			p.do(addsAs("t", which))
			p.same("Add")
			p.refuses(api.ErrTwice, addsAs("t", which))
			p.do(inserts("t", triples(80, 3)...), moves("t"))
			p.same("Move")
			p.reopen()
			p.do(removes("t", which.Name))
			p.same("Remove")
			p.refuses(api.ErrNone, removes("t", which.Name))
			p.do(addsAs("t", which))
			p.same("Add again")
			p.reopen()
		}
	}
}

func TestAddWhatMayNotBe(t *testing.T) {
	p := made(t, 4096, creates("t", three()...), inserts("t", triples(0, 9)...), moves("t"))
	for _, cols := range [][]int{nil, {}, {3}, {-1}, {0, 0}, {0, 1, 2, 0}, {least}, {great}, make([]int, 1000)} {
		p.refuses(api.ErrArg, adds("t", "p", 0, cols...))
		p.refuses(api.ErrNone, adds("nobody", "p", 0, cols...))
		// A name that is there beside them.
		p.refuses(api.ErrArg, adds("t", "super", 0, cols...))
	}
	for _, keys := range []int{-1, 3, least, great} {
		p.refuses(api.ErrArg, adds("t", "p", keys, 0, 1))
	}
	for _, name := range []string{"", "P", xs(17), "a b", "1"} {
		p.refuses(api.ErrArg, adds("t", name, 0, 0))
	}
	p.refuses(api.ErrTwice, adds("t", "super", 0, 0))
	for k := range 5 {
		p.do(adds("t", fmt.Sprint("p", k), k%2, k%3))
	}
	p.same("Add")
	p.refuses(api.ErrLimit, adds("t", "more", 0, 0))
	p.refuses(api.ErrTwice, adds("t", "p3", 0, 0))
	p.refuses(api.ErrArg, adds("t", "p3", 0, 7))
	p.refuses(api.ErrNone, adds("", "more", 0, 0))
	p.do(removes("t", "p2"), adds("t", "more", 3, 2, 0, 1))
	p.same("Add")
	p.reopen()
}

func TestRemove(t *testing.T) {
	p := made(t, 2000, creates("t", three()...), inserts("t", triples(0, 30)...), moves("t"), inserts("t", triples(30, 4)...))
	p.refuses(api.ErrLast, removes("t", "super"))
	p.do(adds("t", "some", 1, 2, 1))
	p.refuses(api.ErrLast, removes("t", "super"))
	p.do(adds("t", "all", 2, 2, 0, 1), removes("t", "super"))
	p.same("Remove")
	p.refuses(api.ErrLast, removes("t", "all"))
	for _, name := range []string{"", "super", "nobody", xs(100)} {
		p.refuses(api.ErrNone, removes("t", name))
		p.refuses(api.ErrNone, removes(name, "all"))
	}
	p.reopen()
	p.do(deletes("t", 3, 31), advances(), moves("t"), removes("t", "some"))
	p.same("Remove")
	p.do(adds("t", "super", 0, 0, 1, 2), removes("t", "all"))
	p.same("Remove")
	p.reopen()
}

func TestAdvance(t *testing.T) {
	p := made(t, 200)
	for k := range 300 {
		p.do(advances())
		if k%50 == 0 {
			p.same("Advance")
		}
	}
	p.reopen()
	if p.s.Clock() != (api.Clock{Now: 301, Low: 1}) {
		t.Error(p.s.Clock())
	}
}

// at lets the clock of a store and a model be another one.
func (p *pair) at(now, low int) {
	p.t.Helper()
	p.m.clock = api.Clock{Now: now, Low: low}
	if errno := p.s.lay(func(n *draft) api.Errno { n.clock = p.m.clock; return api.OK }); errno != api.OK {
		p.t.Fatal(errno)
	}
}

func TestTheLastEpoch(t *testing.T) {
	p := made(t, 2000, creates("t", two()...), inserts("t", pairs(0, 3)...))
	p.at(1<<40-1, 1<<40-2)
	p.do(inserts("t", pairs(3, 3)...), deletes("t", 0), advances())
	for range 2 {
		p.refuses(api.ErrLimit, advances())
		p.refuses(api.ErrEpoch, raises(1<<40+1))
		p.refuses(api.ErrEpoch, raises(1<<40-3))
	}
	p.do(raises(1<<40-1), inserts("t", pairs(6, 3)...), deletes("t", 1, 4, 7))
	p.same("Delete")
	p.reopen()
	p.do(moves("t"))
	p.same("Move")
	p.do(raises(1<<40), moves("t"))
	p.same("Move")
	p.refuses(api.ErrLimit, advances())
	p.reopen()
}

func TestRaise(t *testing.T) {
	p := made(t, 2000, creates("t", two()...), inserts("t", pairs(0, 8)...))
	for range 6 {
		p.do(advances())
	}
	for _, low := range []int{3, 3, 4} {
		for _, wrong := range []int{least, least + 1, -1, 0, p.m.clock.Low - 1, 8, 9, great - 1, great, 1 << 40} {
			p.refuses(api.ErrEpoch, raises(wrong))
		}
		p.do(raises(low))
		p.same("Raise")
	}
	p.do(raises(4), raises(7))
	p.refuses(api.ErrEpoch, raises(6))
	p.refuses(api.ErrEpoch, raises(8))
	p.do(advances(), raises(7), raises(8))
	p.reopen()
}

// What is meant is told ahead of the power: errors of the arguments come first, as long as no call was refused by ErrOff.
func TestErrorsBesideADeviceThatIsOff(t *testing.T) {
	calls := []struct {
		c     call
		errno api.Errno
	}{
		{creates("", two()...), api.ErrArg}, {creates("t", two()...), api.ErrTwice}, {creates("new", two()...), api.ErrOff},
		{drops("nobody"), api.ErrNone}, {drops("t"), api.ErrOff}, {drops("empty"), api.ErrOff},
		{adds("nobody", "p", 0, 0), api.ErrNone}, {adds("t", "p", 0, 2), api.ErrArg}, {adds("t", "super", 0, 0), api.ErrTwice}, {adds("t", "p", 0, 0), api.ErrOff}, {adds("empty", "p", 0, 0), api.ErrOff},
		{removes("t", "nobody"), api.ErrNone}, {removes("u", "super"), api.ErrLast}, {removes("t", "one"), api.ErrOff},
		{raises(-1), api.ErrEpoch}, {raises(3), api.ErrOff}, {raises(2), api.ErrOff}, {advances(), api.ErrOff},
		{inserts("nobody", pairs(0, 1)...), api.ErrNone}, {inserts("t", nums(1)), api.ErrArg}, {inserts("t", pairs(0, 65)...), api.ErrLimit}, {inserts("t", pairs(0, 1)...), api.ErrOff}, {inserts("t"), api.ErrOff},
		{deletes("nobody", 0), api.ErrNone}, {deletes("t", 0), api.ErrNone}, {deletes("t", 99), api.ErrNone}, {deletes("t", 3), api.ErrOff}, {deletes("t"), api.ErrOff},
		{moves("nobody"), api.ErrNone}, {moves("t"), api.ErrOff}, {moves("empty"), api.ErrOff}, {moves("u"), api.ErrOff},
	}
	for k, one := range calls {
		for _, again := range []bool{false, true} {
			p := made(t, 400, scene()...)
			if again {
				p.s = opened(t, p.d)
			}
			p.d.Fuse(0)
			p.d.Sync()
			if errno := one.c.on(p.s); errno != one.errno {
				t.Errorf("%d: %s: %d, not %d", k, one.c.name, errno, one.errno)
			}
			if one.errno == api.ErrOff {
				// Each by itself: with power no other call was refused by ErrOff ahead.
				p.d.Crash(nil)
				isShut(t, p)
			} else {
				// No doing was tried: with power again the store goes on.
				p.d.Crash(nil)
				p.same(one.c.name)
				p.do(advances())
			}
			p.reopen()
		}
	}
}

// What Tables and View tell goes its own way, as does what was handed in.
func TestTablesAreNewMemory(t *testing.T) {
	p := made(t, 2000, scene()...)
	for range 2 {
		l := p.s.Tables()
		v, _ := p.s.View("t")
		for _, tables := range [][]api.Table{l, {v.Table()}} {
			for k := range tables {
				for c := range tables[k].Columns {
					tables[k].Columns[c] = api.Column{Name: "spoilt", Kind: 9}
				}
				for n := range tables[k].Projections {
					for c := range tables[k].Projections[n].Cols {
						tables[k].Projections[n].Cols[c] = 77
					}
					tables[k].Projections[n] = api.Projection{Name: "spoilt"}
				}
				tables[k] = api.Table{}
			}
		}
		if d := viewDiffers(v, p.m, 0); d != "" {
			t.Error(d)
		}
		p.same("changes in what was told")
	}
	columns := slices.Grow(three(), 4)
	behind := columns[:7]
	behind[5] = textCol("behind")
	if errno := p.s.Create("mine", columns); errno != api.OK || behind[5] != textCol("behind") || !slices.Equal(columns, three()) {
		t.Error(errno, behind)
	}
	p.m.create("mine", three())
	columns[0], columns[1] = intCol("spoilt"), api.Column{}
	p.same("changes in columns")
	cols := slices.Grow([]int{2, 0}, 4)
	cols[:4][2] = 1
	if errno := p.s.Add("mine", api.Projection{Name: "p", Cols: cols, Keys: 1}); errno != api.OK || !slices.Equal(cols[:4], []int{2, 0, 1, 0}) {
		t.Error(errno, cols[:4])
	}
	adds("mine", "p", 1, 2, 0).in(p.m)
	cols[0], cols[1] = 9, 9
	p.same("changes in a projection")
	p.reopen()
}
