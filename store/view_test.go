package store

import (
	"peristyle/api"
	"peristyle/device"
	"peristyle/poslist"
	"slices"
	"testing"
)

// St4: View

// kept is a view with the model of what it was of.
type kept struct {
	v *View
	m *model
	k int
}

func (p *pair) keep(table string) kept {
	p.t.Helper()
	v, errno := p.s.View(table)
	if v == nil || errno != api.OK {
		p.t.Fatal(errno)
	}
	return kept{v, p.m.copied(), p.m.find(table)}
}

// same tells whether a view is what it was.
func (one kept) same(t *testing.T, what string) {
	t.Helper()
	if d := viewDiffers(one.v, one.m, one.k); d != "" {
		t.Fatalf("behind %s: %s", what, d)
	}
}

// ends lets a view answer all that it can, whatever that is.
func (one kept) ends(t *testing.T) {
	t.Helper()
	one.v.Table()
	one.v.Write().Lives()
	for p := -1; p <= len(one.m.tables[one.k].Projections); p++ {
		one.v.Order(p)
		for _, e := range one.m.epochs() {
			one.v.Visible(p, e)
		}
		reader := one.v.Reader(p)
		all, _ := poslist.All(reader.Count())
		for col := range 3 {
			reader.Gather(col, all)
			reader.Scan(col, api.Test{Op: api.TestGe, Val: num(3)}, all)
			reader.Scan(col, api.Test{Op: api.TestSome}, all)
			reader.Sum(col, all)
			reader.Zone(col)
		}
		reader.Seek(nums(3))
		reader.Rows([]int{0}, all)
	}
}

func TestViews(t *testing.T) {
	p := made(t, 600)
	for _, c := range scene() {
		p.do(c)
		for _, table := range p.m.tables {
			p.keep(table.Name).same(t, c.name)
		}
	}
}

// A view stays as it is behind calls that neither move nor drop its table, whatever is written.
func TestViewsBehindCalls(t *testing.T) {
	calls := []call{
		inserts("t", pairs(20, 3)...), deletes("t", 0, 12), advances(), inserts("t", pairs(30, 5)...), adds("t", "p", 2, 1, 0), removes("t", "by_b"), adds("t", "by_b", 1, 0), removes("t", "one"), adds("t", "q", 1, 1),
		raises(2), inserts("u", triples(0, 5)...), moves("u"), drops("u"), creates("u", two()...), inserts("u", pairs(0, 60)...), moves("u"), removes("t", "p"), adds("t", "p", 1, 0), deletes("t", 2, 5), moves("u"), drops("u"),
	}
	start := []call{creates("t", two()...), adds("t", "by_b", 1, 1), inserts("t", pairs(0, 12)...), adds("t", "one", 0, 0), moves("t"), inserts("t", pairs(12, 4)...), creates("u", three()...)}
	for _, blocks := range []int{200, 600} {
		p := made(t, blocks, start...)
		var views []kept
		for _, c := range calls {
			views = append(views, p.keep("t"))
			p.do(c)
			for _, one := range views {
				one.same(t, c.name)
			}
		}
		// It is as it was behind a crash, too, as long as nothing is written.
		p.d.Crash(nil)
		for _, one := range views {
			one.same(t, "a crash")
		}
		// Behind Move and Drop, and many writes, it ends.
		for k := range 30 {
			if k%3 == 0 {
				p.do(deletes("t", p.m.alive(0)[0]), advances())
			}
			p.do(inserts("t", pairs(k*5, 4)...), moves("t"))
			for _, one := range views {
				one.ends(t)
			}
		}
		views = append(views, p.keep("t"))
		p.do(drops("t"), creates("t", three()...))
		for k := range 20 {
			p.do(inserts("t", triples(k, 2)...), moves("t"))
			for _, one := range views {
				one.ends(t)
			}
		}
		p.reopen()
		for _, one := range views {
			one.ends(t)
		}
	}
}

// What a view tells by itself stays behind Move and Drop, too.
func TestWhatAViewTellsByItself(t *testing.T) {
	p := made(t, 400, scene()...)
	one := p.keep("t")
	p.do(moves("t"), inserts("t", pairs(0, 20)...), moves("t"), drops("t"))
	if !sameTable(one.v.Table(), one.m.tables[0]) || !sameLives(one.v.Write().Lives(), one.m.lives[0][one.m.laid[0]:]) {
		t.Error(one.v.Table())
	}
	for n := range one.m.tables[0].Projections {
		l, errno := one.v.Visible(n, 2)
		if errno != api.OK || !slices.Equal(slices.Collect(l.Places()), one.m.visible(0, n, 2)) || !slices.Equal(one.v.Order(n), one.m.order(0, n)) {
			t.Error(n, l.Spans(), errno)
		}
	}
}

// Blocks of projections that were removed are kept for views as long as there is room; then they are used.
func TestRoomOfRemovedProjections(t *testing.T) {
	for _, blocks := range []int{150, 400, 2000} {
		p := made(t, blocks, creates("t", two()...), adds("t", "p0", 0, 0, 1), inserts("t", pairs(0, 60)...), moves("t"))
		one := p.keep("t")
		for k := range 400 {
			p.do(removes("t", "p0"), adds("t", "p0", 1+k%2, 1, 0))
			one.ends(t)
		}
		p.same("many projections")
		p.reopen()
	}
}

// What need not be kept for views is not: of no rows, and of tables that were moved.
func TestWhatIsKeptOfRemovedProjections(t *testing.T) {
	p := made(t, 400, creates("t", two()...))
	for range 5 {
		p.do(adds("t", "p", 1, 0), removes("t", "p"))
	}
	if l := p.s.contents[0].parted; len(l) > 0 {
		t.Error(l)
	}
	p.do(inserts("t", pairs(0, 9)...), moves("t"), adds("t", "p", 1, 0), removes("t", "p"))
	if l := p.s.contents[0].parted; len(l) != 1 {
		t.Error(l)
	}
	p.do(moves("t"))
	if l := p.s.contents[0].parted; len(l) > 0 {
		t.Error(l)
	}
}

// Each view has lists, and a write store, of its own.
func TestViewsAreNewMemory(t *testing.T) {
	p := made(t, 400, scene()...)
	one := p.keep("t")
	for range 2 {
		w := one.v.Write()
		w.Add(pairs(0, 3), 9)
		w.Delete(listOfNumbers(0), 9)
		w.Cut(9)
		for n := range one.m.tables[0].Projections {
			l := one.v.Order(n)
			for k := range l {
				l[k] = 0
			}
		}
		one.same(t, "changes in what it told")
		p.same("changes in what a view told")
	}
	rows := one.v.Write().Lives()
	for k := range rows {
		rows[k].Row[0] = num(1234)
	}
	one.same(t, "changes in lives")
}

func TestVisible(t *testing.T) {
	p := made(t, 600, creates("t", intCol("a")), adds("t", "down", 1, 0), inserts("t", nums(5), nums(1), nums(3)), advances(), deletes("t", 1), advances(), inserts("t", nums(0)), moves("t"), deletes("t", 0, 3), inserts("t", nums(8)), advances())
	v, _ := p.s.View("t")
	// Places of the projection down: rows 3, 1, 2, 0, Born 3, 1, 1, 1, Gone 3, 2, 0, 3.
	for e, want := range map[int][]int{least: nil, -1: nil, 0: nil, 1: {1, 2, 3}, 2: {2, 3}, 3: {2}, 4: {2}, 5: {2}, great: {2}} {
		l, errno := v.Visible(1, e)
		if errno != api.OK || !slices.Equal(slices.Collect(l.Places()), want) {
			t.Error(e, l.Spans(), errno)
		}
	}
	for _, wrong := range []int{least, -1, 2, 3, great} {
		if l, errno := v.Visible(wrong, 1); l.Count() != 0 || errno != api.ErrArg {
			t.Error(wrong, l.Spans(), errno)
		}
	}
	if w := v.Write(); w.Count() != 1 || w.Left() != 511 {
		t.Error(w.Lives())
	}
	best, _ := poslist.From([]int{1, 2, 3})
	if l, _ := v.Visible(1, 1); l.Form() != best.Form() {
		t.Error("form", l.Form())
	}
}

// A projection's reader is one: what it read is counted as one.
func TestReaderOfAView(t *testing.T) {
	p := made(t, 600, creates("t", intCol("a")), inserts("t", ints(0, 64)...), inserts("t", ints(64, 10)...), moves("t"))
	v, _ := p.s.View("t")
	all, _ := poslist.All(74)
	v.Reader(0).Gather(0, all)
	if reads := v.Reader(0).Reads(); reads != 2 {
		t.Error(reads)
	}
	again, _ := p.s.View("t")
	if reads := again.Reader(0).Reads(); reads != 0 {
		t.Error(reads)
	}
}

// A projection is laid in the order of its keys: by as many cells it is sought.
func TestSeekInAProjection(t *testing.T) {
	p := made(t, 600, creates("t", three()...), adds("t", "p", 2, 1, 0, 2), inserts("t", triples(0, 40)...), moves("t"))
	v, _ := p.s.View("t")
	order := p.m.order(0, 1)
	for n := range 40 {
		row := project(p.m.lives[0][n].Row, []int{1, 0, 2})
		for keys := range 3 {
			same := func(at int) bool {
				return slices.Equal(project(p.m.lives[0][order[at]].Row, []int{1, 0, 2})[:keys], row[:keys])
			}
			first := slices.IndexFunc(from(0, 40), same)
			last := len(slices.DeleteFunc(from(0, 40), func(at int) bool { return !same(at) }))
			got, errno := v.Reader(1).Seek(row[:keys])
			if errno != api.OK || got != (api.Span{Lo: first, Hi: first + last}) {
				t.Fatal(n, keys, got, errno)
			}
		}
	}
	if _, errno := v.Reader(0).Seek(txtRow("a")); errno != api.ErrArg {
		t.Error(errno)
	}
}

// A reader is one of the device: it tells of the power, and of bytes that were spoilt.
func TestReaderOfADevice(t *testing.T) {
	p := made(t, 600, creates("t", intCol("a")), inserts("t", ints(0, 64)...), moves("t"))
	v, _ := p.s.View("t")
	all, _ := poslist.All(64)
	p.d.Fuse(0)
	p.d.Sync()
	if _, errno := v.Reader(0).Gather(0, all); errno != api.ErrOff {
		t.Error(errno)
	}
	if l, errno := v.Visible(0, 1); l.Count() != 64 || errno != api.OK {
		t.Error(errno)
	}
	p.d.Crash(nil)
	if _, errno := v.Reader(0).Gather(0, all); errno != api.OK {
		t.Error(errno)
	}
	at := p.s.contents[0].columns()[0][0].At.First
	own, _ := p.d.Read(at)
	p.d.Spoil(at, bitTurned(own, 50))
	if _, errno := v.Reader(0).Gather(0, all); errno != api.ErrCorrupt {
		t.Error(errno)
	}
}

// Stores that Open did not give, and views that View did not give.
func TestWhatWasNotGiven(t *testing.T) {
	for _, s := range []*Store{nil, {}, new(Store)} {
		for k, errno := range []api.Errno{
			s.Create("t", two()), s.Create("", nil), s.Drop("t"), s.Add("t", api.Projection{Name: "p", Cols: []int{0}}), s.Remove("t", "super"), s.Insert("t", nil), s.Insert("t", pairs(0, 1)),
			s.Delete("t", poslist.List{}), s.Delete("t", listOfNumbers(0)), s.Advance(), s.Raise(1), s.Raise(0), s.Move("t"),
		} {
			if errno != api.ErrArg {
				t.Error(k, errno)
			}
		}
		if s.Tables() != nil || s.Clock() != (api.Clock{}) {
			t.Error(s.Tables(), s.Clock())
		}
		if l, laid, errno := s.Lives("t"); l != nil || laid != 0 || errno != api.ErrArg {
			t.Error(l, laid, errno)
		}
		if v, errno := s.View("t"); v != nil || errno != api.ErrArg {
			t.Error(v, errno)
		}
	}
	for _, v := range []*View{nil, {}, new(View)} {
		if table := v.Table(); table.Name != "" || table.Columns != nil || table.Projections != nil || v.Write() != nil {
			t.Error(table, v.Write())
		}
		for _, p := range []int{least, -1, 0, 1, great} {
			if l, errno := v.Visible(p, 1); l.Count() != 0 || errno != api.ErrArg || v.Reader(p) != nil || v.Order(p) != nil {
				t.Error(p, l, errno)
			}
		}
	}
	if _, errno := Open(new(device.Device)); errno != api.ErrArg {
		t.Error(errno)
	}
}
