package store

import (
	"fmt"
	"peristyle/api"
	"peristyle/device"
	"peristyle/poslist"
	"peristyle/segment"
	"slices"
	"testing"
)

// St4: View

// kept is a view with the model of what it was of.
type kept struct {
	v *View
	m *model
	k int
}

func (p *pair) keep(table string) kept {
	p.t.Helper()
	v, errno := p.s.View(table)
	if v == nil || errno != api.OK {
		p.t.Fatal(errno)
	}
	return kept{v, p.m.copied(), p.m.find(table)}
}

// same tells whether a view is what it was.
func (one kept) same(t *testing.T, what string) {
	t.Helper()
	if d := viewDiffers(one.v, one.m, one.k); d != "" {
		t.Fatalf("behind %s: %s", what, d)
	}
}

// ends lets a view answer all that it can, whatever that is.
func (one kept) ends(t *testing.T) {
	t.Helper()
	one.v.Table()
	one.v.Write().Lives()
	for p := -1; p <= len(one.m.tables[one.k].Projections); p++ {
		one.v.Order(p)
		for _, e := range one.m.epochs() {
			one.v.Visible(p, e)
		}
		reader := one.v.Reader(p)
		all, _ := poslist.All(reader.Count())
		for col := range 3 {
			reader.Gather(col, all)
			reader.Scan(col, api.Test{Op: api.TestGe, Val: num(3)}, all)
			reader.Scan(col, api.Test{Op: api.TestSome}, all)
			reader.Sum(col, all)
			reader.Zone(col)
		}
		reader.Seek(nums(3))
		reader.Rows([]int{0}, all)
	}
}

func TestViews(t *testing.T) {
	p := made(t, 600)
	for _, c := range scene() {
		p.do(c)
		for _, table := range p.m.tables {
			p.keep(table.Name).same(t, c.name)
		}
	}
}

// A view stays as it is behind all calls, whatever is written.
func TestViewsBehindCalls(t *testing.T) {
	calls := []call{
		inserts("t", pairs(20, 3)...), deletes("t", 0, 12), advances(), inserts("t", pairs(30, 5)...), adds("t", "p", 2, 1, 0), removes("t", "by_b"), adds("t", "by_b", 1, 0), removes("t", "one"), adds("t", "q", 1, 1),
		raises(2), inserts("u", triples(0, 5)...), moves("u"), drops("u"), creates("u", two()...), inserts("u", pairs(0, 60)...), moves("u"), removes("t", "p"), adds("t", "p", 1, 0), deletes("t", 2, 5), moves("u"), drops("u"),
	}
	start := []call{creates("t", two()...), adds("t", "by_b", 1, 1), inserts("t", pairs(0, 12)...), adds("t", "one", 0, 0), moves("t"), inserts("t", pairs(12, 4)...), creates("u", three()...)}
	for _, blocks := range []int{200, 600} {
		p := made(t, blocks, start...)
		var views []kept
		same := func(what string) {
			for _, one := range views {
				one.same(t, what)
			}
		}
		for _, c := range calls {
			views = append(views, p.keep("t"))
			p.do(c)
			same(c.name)
		}
		// It is as it was behind a crash, too, as long as nothing is written.
		p.d.Crash(nil)
		same("a crash")
		// Behind Move and Drop it need not be, but may: what it reads is its own.
		for k := range 30 {
			if k%3 == 0 {
				p.do(deletes("t", p.m.alive(0)[0]), advances())
			}
			p.do(inserts("t", pairs(k*5, 4)...), moves("t"))
			same("Move")
		}
		views = append(views, p.keep("t"))
		p.do(drops("t"), creates("t", three()...))
		for k := range 20 {
			p.do(inserts("t", triples(k, 2)...), moves("t"))
			same("Drop")
		}
		p.reopen()
		for _, one := range views {
			one.ends(t)
		}
	}
}

// What a view tells by itself stays behind Move and Drop, too.
func TestWhatAViewTellsByItself(t *testing.T) {
	p := made(t, 400, scene()...)
	one := p.keep("t")
	p.do(moves("t"), inserts("t", pairs(0, 20)...), moves("t"), drops("t"))
	if !sameTable(one.v.Table(), one.m.tables[0]) || !sameLives(one.v.Write().Lives(), one.m.lives[0][one.m.laid[0]:]) {
		t.Error(one.v.Table())
	}
	for n := range one.m.tables[0].Projections {
		l, errno := one.v.Visible(n, 2)
		if errno != api.OK || !slices.Equal(slices.Collect(l.Places()), one.m.visible(0, n, 2)) || !slices.Equal(one.v.Order(n), one.m.order(0, n)) {
			t.Error(n, l.Spans(), errno)
		}
	}
}

// held is a view with the readers that it gave when it was taken.
type held struct {
	kept
	readers []*segment.Reader
}

func (p *pair) hold(table string) held {
	p.t.Helper()
	one := held{kept: p.keep(table)}
	for n := range one.m.tables[one.k].Projections {
		one.readers = append(one.readers, one.v.Reader(n))
	}
	return one
}

// same tells whether the view, and the readers that it gave, are what they were.
func (one held) same(t *testing.T, what string) {
	t.Helper()
	one.kept.same(t, what)
	for n, reader := range one.readers {
		cols := one.m.tables[one.k].Projections[n].Cols
		var want []api.Row
		for _, number := range one.m.order(one.k, n) {
			want = append(want, project(one.m.lives[one.k][number].Row, cols))
		}
		all, _ := poslist.All(len(want))
		if got, errno := reader.Rows(from(0, len(cols)), all); errno != api.OK || !sameRows(got, want) {
			t.Fatalf("behind %s the reader of projection %d tells %v, %d, not %v", what, n, got, errno, want)
		}
	}
}

// Views that were taken at any times stay as they were, however many projections come and go; and with 2000 blocks there is room for all of these.
func TestViewsBehindManyProjections(t *testing.T) {
	for _, x := range []struct{ blocks, calls int }{{100, 1500}, {300, 1500}, {2000, 3500}} {
		for seed := range 2 {
			t.Run(fmt.Sprint(x.blocks, " blocks, ", seed), func(t *testing.T) {
				t.Parallel()
				r := stir(500 + seed)
				p := made(t, x.blocks, creates("t", two()...), adds("t", "p", 1, 0), inserts("t", pairs(0, 20)...), moves("t"), creates("u", three()...), inserts("u", triples(0, 10)...), moves("u"))
				views, full := []held{p.hold("t"), p.hold("u")}, 0
				for k := range x.calls {
					c := anyProjection(r, p.m)
					if p.try(c) == api.ErrFull {
						full++
					}
					if k%90 == 0 {
						views = append(views, p.hold(p.m.tables[r.below(2)].Name))
					}
					one(r, views).same(t, c.name)
					one(r, views[:2]).same(t, c.name)
				}
				for _, one := range views {
					one.same(t, "all calls")
				}
				p.same("all calls")
				if full > x.calls/4 {
					t.Error(full, "calls were refused")
				}
			})
		}
	}
}

// anyProjection is a call that adds a projection of t or u, or takes one away; seldom another one, that does not move t.
func anyProjection(r *stirrer, m *model) call {
	k := r.below(2)
	table := m.tables[k]
	switch n := r.below(40); {
	case n == 0 && m.rows() < 80:
		return inserts(table.Name, r.rows(table.Columns, 1+r.below(3), false)...)
	case n == 1 && len(m.alive(k)) > 0:
		return deletes(table.Name, one(r, m.alive(k)))
	case n == 2:
		return advances()
	case n == 3:
		return raises(m.clock.Low + r.below(m.clock.Now-m.clock.Low+1))
	case n == 4:
		return moves("u")
	}
	if len(table.Projections) < 3 {
		return r.adds(table, limits{})
	}
	return removes(table.Name, one(r, table.Projections).Name)
}

// So they do behind Move and Drop of their table, and whatever is laid where it was.
func TestViewsBehindMoveAndDrop(t *testing.T) {
	for _, blocks := range []int{100, 600} {
		p := made(t, blocks, creates("t", two()...), adds("t", "p", 2, 1, 0), inserts("t", pairs(0, 30)...), moves("t"))
		// One of them gave readers, one gives none till all is done.
		views, late := []held{p.hold("t")}, []kept{p.keep("t")}
		for k := range 200 {
			p.do(deletes("t", p.m.alive(p.m.find("t"))[k%3]), advances(), raises(p.m.clock.Now+1), inserts("t", pairs(k, 1)...), moves("t"))
			if k%20 == 0 {
				views, late = append(views, p.hold("t")), append(late, p.keep("t"))
			}
			if k%50 == 49 {
				p.do(drops("t"), creates("t", two()...), adds("t", "p", k%3, 1, 0), inserts("t", pairs(k, 30)...), moves("t"))
			}
			one(stir(k), views).same(t, "Move")
		}
		for n := range views {
			views[n].same(t, "all calls")
			late[n].same(t, "all calls")
		}
	}
}

// What is laid is kept for views alone: nothing of what none was taken of; and the blocks of what goes are free at once.
func TestWhatIsKeptForViews(t *testing.T) {
	p := made(t, 400, creates("t", two()...), adds("t", "p", 1, 0), inserts("t", pairs(0, 70)[:64]...), moves("t"))
	left := func() int {
		m, errno := room(400, p.s.state)
		if errno != api.OK {
			t.Fatal(errno)
		}
		return m.Left()
	}
	for _, f := range p.s.contents[0].files {
		if f.twin.own != nil {
			t.Error("a device that no view has")
		}
	}
	p.keep("t")
	for _, f := range p.s.contents[0].files {
		blocks := 0
		for _, ref := range slices.Concat(f.Cols...) {
			blocks += ref.At.Count
		}
		if f.twin.own.Size() != blocks || f.twin.parted {
			t.Error(f.twin.own.Size(), "blocks, not", blocks)
		}
	}
	ahead := left()
	for range 20 {
		p.keep("t")
		p.do(removes("t", "p"))
		if left() <= ahead || len(p.s.contents[0].files) != 1 {
			t.Error(left(), "blocks are free, ahead", ahead)
		}
		p.do(adds("t", "p", 1, 0))
		if left() != ahead {
			t.Error(left(), "blocks are free, not", ahead)
		}
	}
	p.keep("t")
	p.do(drops("t"))
	if free := 400 - regionsOf(400).segments; left() != free {
		t.Error(left(), "blocks are free, not", free)
	}
}

// Each view has lists, and a write store, of its own.
func TestViewsAreNewMemory(t *testing.T) {
	p := made(t, 400, scene()...)
	one := p.keep("t")
	for range 2 {
		w := one.v.Write()
		w.Add(pairs(0, 3), 9)
		w.Delete(listOfNumbers(0), 9)
		w.Cut(9)
		for n := range one.m.tables[0].Projections {
			l := one.v.Order(n)
			for k := range l {
				l[k] = 0
			}
		}
		one.same(t, "changes in what it told")
		p.same("changes in what a view told")
	}
	rows := one.v.Write().Lives()
	for k := range rows {
		rows[k].Row[0] = num(1234)
	}
	one.same(t, "changes in lives")
}

func TestVisible(t *testing.T) {
	p := made(t, 600, creates("t", intCol("a")), adds("t", "down", 1, 0), inserts("t", nums(5), nums(1), nums(3)), advances(), deletes("t", 1), advances(), inserts("t", nums(0)), moves("t"), deletes("t", 0, 3), inserts("t", nums(8)), advances())
	v, _ := p.s.View("t")
	// Places of the projection down: rows 3, 1, 2, 0, Born 3, 1, 1, 1, Gone 3, 2, 0, 3.
	for e, want := range map[int][]int{least: nil, -1: nil, 0: nil, 1: {1, 2, 3}, 2: {2, 3}, 3: {2}, 4: {2}, 5: {2}, great: {2}} {
		l, errno := v.Visible(1, e)
		if errno != api.OK || !slices.Equal(slices.Collect(l.Places()), want) {
			t.Error(e, l.Spans(), errno)
		}
	}
	for _, wrong := range []int{least, -1, 2, 3, great} {
		if l, errno := v.Visible(wrong, 1); l.Count() != 0 || errno != api.ErrArg {
			t.Error(wrong, l.Spans(), errno)
		}
	}
	if w := v.Write(); w.Count() != 1 || w.Left() != 511 {
		t.Error(w.Lives())
	}
	best, _ := poslist.From([]int{1, 2, 3})
	if l, _ := v.Visible(1, 1); l.Form() != best.Form() {
		t.Error("form", l.Form())
	}
}

// A projection's reader is one: what it read is counted as one.
func TestReaderOfAView(t *testing.T) {
	p := made(t, 600, creates("t", intCol("a")), inserts("t", ints(0, 64)...), inserts("t", ints(64, 10)...), moves("t"))
	v, _ := p.s.View("t")
	all, _ := poslist.All(74)
	v.Reader(0).Gather(0, all)
	if reads := v.Reader(0).Reads(); reads != 2 {
		t.Error(reads)
	}
	again, _ := p.s.View("t")
	if reads := again.Reader(0).Reads(); reads != 0 {
		t.Error(reads)
	}
}

// A projection is laid in the order of its keys: by as many cells it is sought.
func TestSeekInAProjection(t *testing.T) {
	p := made(t, 600, creates("t", three()...), adds("t", "p", 2, 1, 0, 2), inserts("t", triples(0, 40)...), moves("t"))
	v, _ := p.s.View("t")
	order := p.m.order(0, 1)
	for n := range 40 {
		row := project(p.m.lives[0][n].Row, []int{1, 0, 2})
		for keys := range 3 {
			same := func(at int) bool {
				return slices.Equal(project(p.m.lives[0][order[at]].Row, []int{1, 0, 2})[:keys], row[:keys])
			}
			first := slices.IndexFunc(from(0, 40), same)
			last := len(slices.DeleteFunc(from(0, 40), func(at int) bool { return !same(at) }))
			got, errno := v.Reader(1).Seek(row[:keys])
			if errno != api.OK || got != (api.Span{Lo: first, Hi: first + last}) {
				t.Fatal(n, keys, got, errno)
			}
		}
	}
	if _, errno := v.Reader(0).Seek(txtRow("a")); errno != api.ErrArg {
		t.Error(errno)
	}
}

// turnedOff lets the power of a device go off.
func turnedOff(d *device.Device) {
	d.Fuse(0)
	d.Sync()
}

// A reader is one of the device: it tells of the power, and of bytes that were spoilt, as long as the blocks are those of what it reads.
func TestReaderOfADevice(t *testing.T) {
	p := made(t, 600, creates("t", intCol("a")), inserts("t", ints(0, 64)...), moves("t"))
	v, _ := p.s.View("t")
	all, _ := poslist.All(64)
	reads := func(want api.Errno) {
		t.Helper()
		if l, errno := v.Reader(0).Gather(0, all); errno != want || want == api.OK && len(l) != 64 {
			t.Error(l, errno)
		}
	}
	for range 2 {
		turnedOff(p.d)
		reads(api.ErrOff)
		if l, errno := v.Visible(0, 1); l.Count() != 64 || errno != api.OK {
			t.Error(errno)
		}
		p.d.Crash(nil)
		reads(api.OK)
	}
	at := p.s.contents[0].columns()[0][0].At.First
	own, _ := p.d.Read(at)
	p.d.Spoil(at, bitTurned(own, 50))
	reads(api.ErrCorrupt)
	p.d.Spoil(at, own)
	reads(api.OK)
	// What lies there behind Drop is none of the view's.
	p.do(drops("t"))
	p.d.Spoil(at, bitTurned(own, 50))
	reads(api.OK)
	turnedOff(p.d)
	reads(api.ErrOff)
	p.d.Crash(nil)
	reads(api.OK)
}

// What was spoilt when it went stays so, for the views that have it; others read what is right.
func TestViewsOfASpoiltProjection(t *testing.T) {
	p := made(t, 600, creates("t", two()...), adds("t", "p", 1, 0), inserts("t", pairs(0, 40)...), moves("t"))
	v, _ := p.s.View("t")
	at := p.s.contents[0].files[1].Cols[0][0].At.First
	own, _ := p.d.Read(at)
	p.d.Spoil(at, bitTurned(own, 50))
	p.do(removes("t", "p"))
	p.d.Spoil(at, own)
	p.do(adds("t", "p", 1, 0))
	all, _ := poslist.All(40)
	if l, errno := v.Reader(1).Gather(0, all); l != nil || errno != api.ErrCorrupt {
		t.Error(l, errno)
	}
	if l, errno := v.Reader(0).Gather(0, all); len(l) != 40 || errno != api.OK {
		t.Error(l, errno)
	}
	p.keep("t").same(t, "Add")
}

// A call that is broken off parts no view from the device: behind the crash it reads what is there.
func TestViewsOfWhatWasBrokenOff(t *testing.T) {
	for _, c := range []call{removes("t", "p"), moves("t"), drops("t")} {
		for n := 0; ; n++ {
			p := made(t, 200, creates("t", two()...), adds("t", "p", 1, 0), inserts("t", pairs(0, 40)...), moves("t"), inserts("t", pairs(40, 9)...))
			one := p.hold("t")
			p.d.Fuse(n)
			errno := c.on(p.s)
			if errno != api.OK {
				all, _ := poslist.All(40)
				if l, errno := one.v.Reader(1).Gather(0, all); l != nil || errno != api.ErrOff {
					t.Error(l, errno)
				}
			}
			p.d.Crash(from(0, n))
			one.same(t, c.name)
			if errno == api.OK {
				break
			}
		}
	}
}

// Stores that Open did not give, and views that View did not give.
func TestWhatWasNotGiven(t *testing.T) {
	for _, s := range []*Store{nil, {}, new(Store)} {
		for k, errno := range []api.Errno{
			s.Create("t", two()), s.Create("", nil), s.Drop("t"), s.Add("t", api.Projection{Name: "p", Cols: []int{0}}), s.Remove("t", "super"), s.Insert("t", nil), s.Insert("t", pairs(0, 1)),
			s.Delete("t", poslist.List{}), s.Delete("t", listOfNumbers(0)), s.Advance(), s.Raise(1), s.Raise(0), s.Move("t"),
		} {
			if errno != api.ErrArg {
				t.Error(k, errno)
			}
		}
		if s.Tables() != nil || s.Clock() != (api.Clock{}) {
			t.Error(s.Tables(), s.Clock())
		}
		if l, laid, errno := s.Lives("t"); l != nil || laid != 0 || errno != api.ErrArg {
			t.Error(l, laid, errno)
		}
		if v, errno := s.View("t"); v != nil || errno != api.ErrArg {
			t.Error(v, errno)
		}
	}
	for _, v := range []*View{nil, {}, new(View)} {
		if table := v.Table(); table.Name != "" || table.Columns != nil || table.Projections != nil || v.Write() != nil {
			t.Error(table, v.Write())
		}
		for _, p := range []int{least, -1, 0, 1, great} {
			if l, errno := v.Visible(p, 1); l.Count() != 0 || errno != api.ErrArg || v.Reader(p) != nil || v.Order(p) != nil {
				t.Error(p, l, errno)
			}
		}
	}
	if _, errno := Open(new(device.Device)); errno != api.ErrArg {
		t.Error(errno)
	}
}
