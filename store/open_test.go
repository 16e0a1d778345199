package store

import (
	"peristyle/api"
	"peristyle/device"
	"peristyle/extent"
	"peristyle/journal"
	"peristyle/poslist"
	"peristyle/schema"
	"peristyle/slots"
	"peristyle/vint"
	"peristyle/wos"
	"slices"
	"strings"
	"testing"
)

// St1: Open, Tables, Clock, Lives

// The chapter's example.
func TestExample(t *testing.T) {
	p := made(t, 2000, creates("t", two()...), inserts("t", pairs(0, 3)...))
	p.d.Crash(nil)
	s := opened(t, p.d)
	l, laid, errno := s.Lives("t")
	if errno != api.OK || laid != 0 || len(l) != 3 || !slices.Equal(l[2].Row, pairs(2, 1)[0]) || l[2].Born != 1 || l[2].Gone != 0 {
		t.Error(l, laid, errno)
	}
}

func TestOpenOfDevices(t *testing.T) {
	if s, errno := Open(nil); s != nil || errno != api.ErrArg {
		t.Error("nil", s, errno)
	}
	if s, errno := Open(&device.Device{}); s != nil || errno != api.ErrArg {
		t.Error("a device that New did not give", s, errno)
	}
	for _, blocks := range []int{1, 2, 3, 50, 98, 99} {
		d := newDevice(t, blocks)
		for range 2 {
			if s, errno := Open(d); s != nil || errno != api.ErrArg {
				t.Error(blocks, s, errno)
			}
			// ErrArg is told ahead of ErrOff.
			d.Fuse(0)
			d.Sync()
		}
	}
	for _, blocks := range []int{100, 101, 128, 600, 1999, 2000, 2001, 4095, 4096} {
		d := newDevice(t, blocks)
		p := &pair{t, d, opened(t, d), modelOf()}
		p.same("Open")
		if p.s.Clock() != (api.Clock{Now: 1, Low: 1}) || len(p.s.Tables()) != 0 {
			t.Error(blocks, p.s.Clock(), p.s.Tables())
		}
		for at := range blocks {
			if s, _ := d.Read(at); s != strings.Repeat("\x00", 128) {
				t.Fatal("Open wrote", at)
			}
		}
		p.do(creates("t", two()...), inserts("t", pairs(0, 9)...), advances(), moves("t"), inserts("t", pairs(9, 3)...), deletes("t", 1, 10))
		p.same("some calls")
		p.reopen()
	}
}

func TestOpenWithoutPower(t *testing.T) {
	for _, calls := range [][]call{nil, scene()} {
		p := made(t, 200, calls...)
		p.d.Fuse(0)
		if errno := p.d.Sync(); errno != api.ErrOff {
			t.Fatal(errno)
		}
		for range 2 {
			if s, errno := Open(p.d); s != nil || errno != api.ErrOff {
				t.Error(s, errno)
			}
		}
		p.reopen()
	}
}

// Open does nothing to the device that a fuse could break off; the first call behind it is broken off by each.
func TestOpenWithAFuse(t *testing.T) {
	for _, calls := range [][]call{nil, scene()} {
		for n := 0; ; n++ {
			p := made(t, 200, calls...)
			p.d.Fuse(n)
			p.s = opened(t, p.d)
			if d := differs(p.s, p.m); d != "" {
				t.Fatal(d)
			}
			errno := p.s.Advance()
			if errno == api.OK {
				if n < 2 {
					t.Error("Advance was sure by", n, "doings")
				}
				break
			}
			if errno != api.ErrOff {
				t.Fatal(n, errno)
			}
			p.d.Crash(nil)
			p.s = opened(t, p.d)
			p.same("a crash")
		}
	}
}

// scene are calls by which there are tables, rows that are laid and that are not, and such as went.
func scene() []call {
	return []call{
		creates("t", two()...), inserts("t", pairs(0, 9)...), advances(), deletes("t", 1, 4), advances(),
		adds("t", "by_b", 2, 1, 0), moves("t"),
		creates("empty", textCol("x")), creates("u", textCol("c"), nullCol("d", api.Int), intCol("e")),
		inserts("u", api.Row{txt("one"), num(-1), num(1 << 40)}, api.Row{txt(""), {}, num(0)}),
		advances(), inserts("t", pairs(9, 4)...), deletes("t", 0, 11), adds("t", "one", 1, 0), raises(2), advances(),
		inserts("u", api.Row{txt(xs(32)), num(great), num(least)}), inserts("t", pairs(13, 1)...), deletes("t", 2, 13),
	}
}

func TestOpenTwice(t *testing.T) {
	p := made(t, 300)
	for _, c := range scene() {
		p.do(c)
		p.same(c.name)
		for range 2 {
			p.s = opened(t, p.d)
			p.same("Open")
		}
		p.reopen()
		p.reopen()
	}
}

// A store that was opened goes on, and so does the next one, whatever was journaled.
func TestOpenAmongCalls(t *testing.T) {
	for every := 1; every < 6; every++ {
		p := made(t, 400)
		for k, c := range scene() {
			if k%every == 0 {
				p.reopen()
			}
			p.do(c)
		}
		p.same("the scene")
	}
}

func TestLives(t *testing.T) {
	p := made(t, 600, creates("none", two()...), creates("laid", two()...), creates("not", two()...), creates("both", two()...), creates("gone", two()...))
	p.do(inserts("laid", pairs(0, 5)...), inserts("both", pairs(0, 4)...), inserts("gone", pairs(0, 4)...), advances())
	p.do(moves("laid"), moves("both"), moves("gone"), inserts("not", pairs(0, 3)...), inserts("both", pairs(4, 3)...), inserts("gone", pairs(4, 3)...))
	p.do(deletes("gone", from(0, 7)...), deletes("both", 3, 4), advances())
	for name, want := range map[string][2]int{"none": {0, 0}, "laid": {5, 5}, "not": {3, 0}, "both": {7, 4}, "gone": {7, 4}} {
		l, laid, errno := p.s.Lives(name)
		if errno != api.OK || len(l) != want[0] || laid != want[1] {
			t.Error(name, len(l), laid, errno)
		}
	}
	l, _, _ := p.s.Lives("both")
	for k, life := range l {
		gone := 0
		if k == 3 || k == 4 {
			gone = 2
		}
		born := 1
		if k > 3 {
			born = 2
		}
		if life.Gone != gone || life.Born != born || !slices.Equal(life.Row, pairs(k, 1)[0]) {
			t.Error(k, life)
		}
	}
	for _, name := range []string{"", "T", "nobody", "no name", "non", "nonee", xs(16), xs(17), xs(1 << 20), "\x00", "none\x00"} {
		if l, laid, errno := p.s.Lives(name); l != nil || laid != 0 || errno != api.ErrNone {
			t.Error(name, l, laid, errno)
		}
		if v, errno := p.s.View(name); v != nil || errno != api.ErrNone {
			t.Error(name, v, errno)
		}
	}
	p.same("Lives")
}

// A device that is off is told by the calls that read, whether there is something to be read, or not; no table is told ahead of it.
func TestReadingWithoutPower(t *testing.T) {
	for _, name := range []string{"t", "u", "empty"} {
		for _, view := range []bool{false, true} {
			p := made(t, 200, scene()...)
			p.d.Fuse(0)
			p.d.Sync()
			if _, _, errno := p.s.Lives("nobody"); errno != api.ErrNone {
				t.Error(errno)
			}
			if _, errno := p.s.View("nobody"); errno != api.ErrNone {
				t.Error(errno)
			}
			if view {
				if v, errno := p.s.View(name); v != nil || errno != api.ErrOff {
					t.Error(name, v, errno)
				}
			} else if l, laid, errno := p.s.Lives(name); l != nil || laid != 0 || errno != api.ErrOff {
				t.Error(name, l, laid, errno)
			}
			// That, too, was a call that was refused by ErrOff.
			p.d.Crash(nil)
			isShut(t, p)
			p.reopen()
		}
	}
}

// isShut tells whether all calls are refused by ErrOff, but for Tables and Clock.
func isShut(t *testing.T, p *pair) {
	t.Helper()
	s := p.s
	for k, errno := range []api.Errno{
		s.Create("w", two()), s.Create("", nil), s.Drop("t"), s.Drop("nobody"), s.Add("t", api.Projection{Name: "w", Cols: []int{0}}), s.Add("", api.Projection{}), s.Remove("t", "super"), s.Remove("", ""),
		s.Insert("t", nil), s.Insert("nobody", nil), s.Delete("t", poslist.List{}), s.Delete("nobody", poslist.List{}), s.Advance(), s.Raise(1), s.Raise(-1), s.Move("t"), s.Move("nobody"),
	} {
		if errno != api.ErrOff {
			t.Errorf("call %d behind ErrOff: %d", k, errno)
		}
	}
	for _, name := range []string{"t", "nobody", ""} {
		if l, laid, errno := s.Lives(name); l != nil || laid != 0 || errno != api.ErrOff {
			t.Error("Lives behind ErrOff:", l, laid, errno)
		}
		if v, errno := s.View(name); v != nil || errno != api.ErrOff {
			t.Error("View behind ErrOff:", v, errno)
		}
	}
	if !slices.EqualFunc(s.Tables(), p.m.tables, sameTable) || s.Clock() != p.m.clock {
		t.Error("behind ErrOff:", s.Tables(), s.Clock())
	}
}

// parts are the blocks of a store's device that hold what is sure now.
func (p *pair) parts() map[int]string {
	last := opened(p.t, p.d)
	in := map[int]string{0: "slot", 1: "slot"}
	_, state, _, errno := slots.Read(p.d)
	if errno != api.OK {
		p.t.Fatal(errno)
	}
	for at := state.First; at < end(state); at++ {
		in[at] = "state"
	}
	records := regionsOf(p.d.Size()).journal
	for at := records.First; at < end(records); at++ {
		if s, _ := p.d.Read(at); s != strings.Repeat("\x00", 128) {
			in[at] = "journal"
		}
	}
	for ref := range last.refs() {
		for k := range ref.At.Count {
			in[ref.At.First+k] = "segment"
		}
	}
	return in
}

// answered are what a store answers when blocks may be spoilt: told tells of those that tell so, wrong of those that answer something else.
type answered struct{ told, wrong int }

// asks lets a store answer all that can be asked, and held against a model.
func (a *answered) asks(s *Store, m *model) {
	if !slices.EqualFunc(s.Tables(), m.tables, sameTable) || s.Clock() != m.clock {
		a.wrong++
		return
	}
	for k, table := range m.tables {
		l, laid, errno := s.Lives(table.Name)
		switch {
		case errno == api.ErrCorrupt && l == nil && laid == 0:
			a.told++
		case errno != api.OK || laid != m.laid[k] || !sameLives(l, m.lives[k]):
			a.wrong++
		}
		v, errno := s.View(table.Name)
		if errno != api.OK || !sameLives(v.Write().Lives(), m.lives[k][m.laid[k]:]) {
			a.wrong++
			continue
		}
		for p := range table.Projections {
			a.asksProjection(v, m, k, p)
		}
	}
}

func (a *answered) asksProjection(v *View, m *model, k, p int) {
	order, cols := m.order(k, p), m.tables[k].Projections[p].Cols
	all, _ := poslist.All(len(order))
	rows, errno := v.Reader(p).Rows(from(0, len(cols)), all)
	if errno == api.ErrCorrupt {
		a.told++
		return
	}
	for at, row := range rows {
		if !slices.Equal(row, project(m.lives[k][order[at]].Row, cols)) {
			a.wrong++
			return
		}
	}
	if errno != api.OK || !slices.Equal(v.Order(p), order) {
		a.wrong++
	}
}

// does lets a store do all that can be done, and tells what it answers behind each.
func (a *answered) does(s *Store, m *model) {
	m = m.copied()
	for _, c := range []call{
		moves("t"), adds("t", "w", 1, 1), adds("u", "w", 0, 0), inserts("t", pairs(3, 2)...), deletes("t", 3), advances(), removes("t", "one"),
		moves("u"), moves("empty"), raises(m.clock.Now), creates("w", two()...), drops("t"),
	} {
		behind := m.copied()
		want := c.in(behind)
		switch got := c.on(s); got {
		case api.OK:
			m = behind
		case api.ErrCorrupt:
			a.told++
		default:
			// What was refused as corrupt was not done: others are refused for that.
			if got != want {
				a.wrong++
			}
		}
		a.asks(s, m)
	}
}

// opens opens a device of which a block was spoilt, and asks and does all.
func (a *answered) opens(t *testing.T, d *device.Device, models ...*model) {
	t.Helper()
	s, errno := Open(d)
	if errno != api.OK {
		if s != nil || errno != api.ErrCorrupt {
			t.Fatal("Open:", s, errno)
		}
		a.told++
		return
	}
	for _, m := range models {
		if m.clock == s.Clock() && sameCounts(s, m) {
			a.asks(s, m)
			a.does(s, m)
			return
		}
	}
	a.wrong++
}

// sameCounts tells whether there are as many rows, and as many went, as in a model; where lives can't be read it may be.
func sameCounts(s *Store, m *model) bool {
	for k, t := range m.tables {
		l, _, errno := s.Lives(t.Name)
		if errno == api.OK && !sameLives(l, m.lives[k]) {
			return false
		}
	}
	return true
}

// bitTurned is a block with one bit turned.
func bitTurned(s string, bit int) string {
	b := []byte(s)
	b[bit/8] ^= 1 << (bit % 8)
	return string(b)
}

// Each block, in turn, with a bit turned: it is told, or it was not needed.
func TestABitThatIsTurned(t *testing.T) {
	t.Parallel()
	p := made(t, 110, scene()...)
	in := p.parts()
	r := stir(1)
	for at := range p.d.Size() {
		bits := []int{0, 7, 1023}
		if in[at] != "" {
			bits = append(bits, r.below(1024), r.below(1024), r.below(200))
		}
		for _, bit := range bits {
			d := copyOf(t, p.d)
			s, _ := d.Read(at)
			d.Spoil(at, bitTurned(s, bit))
			var a answered
			a.opens(t, d, p.m)
			if a.wrong > 0 {
				t.Errorf("bit %d of block %d (%s): %d answers that are wrong", bit, at, in[at], a.wrong)
			}
			if in[at] != "" && a.told == 0 {
				t.Errorf("bit %d of block %d (%s): not told", bit, at, in[at])
			}
		}
	}
}

// Each block, in turn, of noughts: it is told, or it was not needed, or it is the last record, as if it had not come.
func TestABlockOfNoughts(t *testing.T) {
	t.Parallel()
	all := scene()
	ahead := made(t, 110, all[:len(all)-1]...)
	p := made(t, 110, all...)
	in := p.parts()
	for at := range p.d.Size() {
		d := copyOf(t, p.d)
		d.Spoil(at, strings.Repeat("\x00", 128))
		var a answered
		models := []*model{p.m}
		if in[at] == "journal" {
			models = append(models, ahead.m)
		}
		a.opens(t, d, models...)
		if a.wrong > 0 {
			t.Errorf("block %d (%s): %d answers that are wrong", at, in[at], a.wrong)
		}
		if part := in[at]; a.told == 0 && (part == "slot" || part == "state" || part == "segment") {
			t.Errorf("block %d (%s): not told", at, part)
		}
	}
}

// A record that is lost, though others stand behind it, is told.
func TestARecordThatIsLost(t *testing.T) {
	t.Parallel()
	p := made(t, 400, creates("t", two()...), inserts("t", pairs(0, 30)...), advances(), inserts("t", pairs(0, 20)...), advances(), deletes("t", 3), advances())
	in := regionsOf(400).journal
	last := in.Count - p.s.journal.Room() - 1
	if last < 6 {
		t.Fatal("few records:", last)
	}
	for k := range last {
		d := copyOf(t, p.d)
		d.Spoil(in.First+k, strings.Repeat("\x00", 128))
		if s, errno := Open(d); s != nil || errno != api.ErrCorrupt {
			t.Error(k, errno)
		}
	}
}

// A slot that is lost is told: what was laid ahead does not come back.
func TestASlotThatIsLost(t *testing.T) {
	t.Parallel()
	for count := 2; count <= 6; count++ {
		p := made(t, 400, creates("t", two()...))
		for range count {
			p.do(moves("t"), advances())
		}
		for at := range 2 {
			d := copyOf(t, p.d)
			d.Spoil(at, strings.Repeat("\x00", 128))
			if s, errno := Open(d); s != nil || errno != api.ErrCorrupt {
				t.Error(count, at, errno)
			}
		}
	}
	// Of the first turn, and the second one, the records tell it.
	for _, calls := range [][]call{{creates("t", two()...), advances()}, {creates("t", two()...), moves("t"), advances()}} {
		p := made(t, 400, calls...)
		for at := range 2 {
			d := copyOf(t, p.d)
			if s, _ := d.Read(at); s == strings.Repeat("\x00", 128) {
				continue
			}
			d.Spoil(at, strings.Repeat("\x00", 128))
			if s, errno := Open(d); s != nil || errno != api.ErrCorrupt {
				t.Error(len(calls), at, errno)
			}
		}
	}
}

// Each block, in turn, with the bytes of another one.
func TestBytesOfAnotherBlock(t *testing.T) {
	t.Parallel()
	p := made(t, 110, scene()...)
	in := p.parts()
	r := stir(2)
	blocks := from(0, p.d.Size())
	var kept []int
	for _, at := range blocks {
		if s, _ := p.d.Read(at); s != strings.Repeat("\x00", 128) {
			kept = append(kept, at)
		}
	}
	for _, at := range blocks {
		for _, other := range mixed(r, kept)[:12] {
			d := copyOf(t, p.d)
			s, _ := d.Read(other)
			if own, _ := d.Read(at); own == s {
				continue
			}
			d.Spoil(at, s)
			var a answered
			a.opens(t, d, p.m)
			// A block of a column may stand where another one was, if it has the same kind and zone: that could have been written.
			if a.wrong > 0 && in[at] != "segment" {
				t.Errorf("block %d (%s) of %d (%s): %d answers that are wrong", at, in[at], other, in[other], a.wrong)
			}
			if a.told == 0 && (in[at] == "slot" || in[at] == "state" || in[at] == "journal") {
				t.Errorf("block %d (%s) of %d (%s): not told", at, in[at], other, in[other])
			}
		}
	}
}

// What is spoilt behind Open is told when it is read.
func TestSpoiltBehindOpen(t *testing.T) {
	t.Parallel()
	p := made(t, 110, scene()...)
	in := p.parts()
	for at := range p.d.Size() {
		if in[at] != "segment" {
			continue
		}
		d := copyOf(t, p.d)
		s := opened(t, d)
		v, _ := s.View("t")
		own, _ := d.Read(at)
		d.Spoil(at, bitTurned(own, 77))
		var a, b answered
		for k := range p.m.tables[0].Projections {
			b.asksProjection(v, p.m, 0, k)
		}
		a.asks(s, p.m)
		a.does(s, p.m)
		if a.told == 0 || a.wrong+b.wrong > 0 {
			t.Error(at, a, b)
		}
	}
}

// laid lays bytes as what was laid last, on a device with what a store left.
func laid(t *testing.T, d *device.Device, turn int, bytes string) {
	t.Helper()
	own := regionsOf(d.Size()).states[turn%2]
	if errno := slots.Lay(d, api.Extent{First: own.First, Count: max(1, extent.For(len(bytes)))}, turn, bytes); errno != api.OK {
		t.Fatal(errno)
	}
}

// adding is the journal of a device, as it is, behind whose records more can be written.
func adding(t *testing.T, d *device.Device) *journal.Journal {
	t.Helper()
	s := opened(t, d)
	j, errno := journal.Open(d, regionsOf(d.Size()).journal, s.turn)
	if errno != api.OK {
		t.Fatal(errno)
	}
	return j
}

// answersAnything lets a store do and answer all: it must end.
func answersAnything(s *Store) {
	for _, table := range s.Tables() {
		s.Lives(table.Name)
		if v, errno := s.View(table.Name); errno == api.OK {
			v.Table()
			v.Write().Lives()
			for p := range table.Projections {
				all, _ := poslist.All(v.Reader(p).Count())
				v.Reader(p).Rows(from(0, len(table.Projections[p].Cols)), all)
				v.Order(p)
				v.Visible(p, s.Clock().Now)
			}
		}
		s.Delete(table.Name, listOfNumbers(0, 1))
		s.Add(table.Name, api.Projection{Name: "w", Cols: []int{0}, Keys: 1})
		s.Move(table.Name)
		s.Lives(table.Name)
		s.Remove(table.Name, "w")
	}
	s.Advance()
	s.Raise(s.Clock().Now)
	s.Create("w", two())
	for _, table := range s.Tables() {
		s.Drop(table.Name)
	}
}

// States that no store laid, with their sums: they are corrupt, or they are a state, of which there is one kind of bytes.
func TestStatesThatNoStoreLaid(t *testing.T) {
	t.Parallel()
	p := made(t, 200, scene()...)
	bytes, _, turn, errno := slots.Read(p.d)
	if errno != api.OK {
		t.Fatal(errno)
	}
	r := stir(3)
	texts := []string{"", "\x00", "\x02\x02", "\x02\x02\x00", bytes + "\x00", bytes + "x", bytes[:len(bytes)-1], bytes[1:], strings.Repeat("\xff", 99)}
	for k := range len(bytes) {
		texts = append(texts, bytes[:k], bytes[:k]+string([]byte{bytes[k] ^ 1<<r.below(8)})+bytes[k+1:], bytes[:k]+string([]byte{byte(r.below(256))})+bytes[k+1:], bytes[:k]+bytes[min(k+1+r.below(3), len(bytes)):])
	}
	isOpen := 0
	for _, s := range texts {
		if got, errno := takeState(s); errno == api.OK && got.put() != s {
			t.Fatalf("%q is a state, and so is %q", s, got.put())
		} else if errno != api.OK && errno != api.ErrCorrupt {
			t.Fatal(errno)
		}
		d := copyOf(t, p.d)
		laid(t, d, turn+1, s)
		o, errno := Open(d)
		if errno == api.OK {
			isOpen++
			answersAnything(o)
		} else if o != nil || errno != api.ErrCorrupt {
			t.Fatal(o, errno)
		}
	}
	if isOpen == 0 || isOpen == len(texts) {
		t.Error(isOpen, "of", len(texts), "are opened")
	}
}

// States that may not be, each for one reason, laid with their sums.
func TestStatesThatMayNotBe(t *testing.T) {
	p := made(t, 600, creates("t", intCol("a"), nullCol("b", api.Text)), adds("t", "by", 1, 1), inserts("t", pairs(0, 64)...), inserts("t", pairs(64, 6)...), advances(), deletes("t", 3), moves("t"), inserts("t", pairs(70, 3)...), advances(), deletes("t", 71), advances())
	_, _, turn, _ := slots.Read(p.d)
	lives := func(l ...api.Live) func(c *content) {
		return func(c *content) { c.written = writtenOf(l) }
	}
	born := func(l ...api.Run) func(c *content) { return func(c *content) { c.born = l } }
	gone := func(l ...api.Mark) func(c *content) { return func(c *content) { c.marks = l } }
	ref := func(change func(one *api.Ref)) func(c *content) {
		return func(c *content) { change(&c.files[0].Cols[0][1]) }
	}
	row := pairs(0, 1)[0]
	for k, change := range []func(c *content){
		func(c *content) {}, lives(api.Live{Row: row, Born: 1, Gone: 4}), gone(api.Mark{At: 69, Gone: 4}), born(api.Run{Val: 2, Count: 70}), ref(func(one *api.Ref) { one.At.First = 599 - one.At.Count }),
		// Those ahead may be, those that follow not.
		lives(api.Live{Row: row, Born: 5}), lives(api.Live{Row: row, Born: 2, Gone: 5}), lives(api.Live{Row: row, Born: 3, Gone: 2}), lives(api.Live{Row: nums(1), Born: 1}), lives(api.Live{Row: api.Row{{}, {}}, Born: 1}), lives(api.Live{Born: 1}), lives(api.Live{Row: api.Row{txt("a"), txt("b")}, Born: 1}),
		born(api.Run{Val: 5, Count: 70}), born(api.Run{Val: 0, Count: 70}), born(api.Run{Val: -1, Count: 70}), born(api.Run{Val: 1, Count: 69}), born(api.Run{Val: 1, Count: 71}), born(),
		gone(api.Mark{At: 70, Gone: 4}), gone(api.Mark{At: 1, Gone: 5}), gone(api.Mark{At: 4095, Gone: 4}),
		ref(func(one *api.Ref) { one.At.First = -1 }), ref(func(one *api.Ref) { one.At.First = 0 }), ref(func(one *api.Ref) { one.At.First = regionsOf(600).segments - 1 }), ref(func(one *api.Ref) { one.At.First = 600 }), ref(func(one *api.Ref) { one.At.First = great }),
		ref(func(one *api.Ref) { one.At.First-- }), ref(func(one *api.Ref) { one.At.First = p.s.contents[0].files[1].Cols[0][0].At.First }), ref(func(one *api.Ref) { one.Bytes = 0 }), ref(func(one *api.Ref) { one.Bytes = -1 }),
		ref(func(one *api.Ref) { one.Bytes = 1<<14 + 1; one.At.First = 300 }), ref(func(one *api.Ref) { one.Zone.Nulls = -1 }), ref(func(one *api.Ref) { one.Zone.Nulls = 65 }),
		func(c *content) { c.files[1].order[0] = c.files[1].order[1] },
	} {
		s := p.s.state.copied()
		c := s.contents[0]
		c.files = slices.Clone(c.files)
		for n, f := range c.files {
			c.files[n].order = slices.Clone(f.order)
			c.files[n].Cols = slices.Clone(f.Cols)
			for col := range f.Cols {
				c.files[n].Cols[col] = slices.Clone(f.Cols[col])
			}
		}
		change(&c)
		s.contents[0] = c
		d := copyOf(t, p.d)
		laid(t, d, turn+1, s.put())
		o, errno := Open(d)
		if k < 5 && (errno != api.OK || len(o.Tables()) != 1) || k >= 5 && (o != nil || errno != api.ErrCorrupt) {
			t.Errorf("%d: %v, %d", k, o, errno)
		}
	}
	for _, clock := range []api.Clock{{Now: 3, Low: 4}, {Now: 4}, {Low: 1}, {Now: 1<<40 + 1, Low: 1}, {Now: 2, Low: 1}} {
		s := p.s.state.copied()
		s.clock = clock
		d := copyOf(t, p.d)
		laid(t, d, turn+1, s.put())
		if o, errno := Open(d); o != nil || errno != api.ErrCorrupt {
			t.Error(clock, errno)
		}
	}
}

// Rows that are not laid, as many as may be, and one more.
func TestAStateOfManyRows(t *testing.T) {
	p := made(t, 4096, creates("t", intCol("a")))
	tables, _ := schema.Put(p.s.Tables())
	for count, want := range map[int]api.Errno{0: api.OK, 1: api.OK, 512: api.OK, 513: api.ErrCorrupt, 4096: api.ErrCorrupt} {
		lives, _ := wos.Put(slices.Repeat([]api.Live{{Row: nums(7), Born: 1}}, count))
		d := copyOf(t, p.d)
		laid(t, d, 2, vint.Put(1)+vint.Put(1)+tables+vint.Put(0)+sized("")+"\x00"+lives)
		if _, errno := Open(d); errno != want {
			t.Error(count, errno)
		}
	}
}

// A state that lies elsewhere than one of its turn does, or in more blocks than it needs.
func TestAStateThatLiesElsewhere(t *testing.T) {
	p := made(t, 200, scene()...)
	bytes, at, turn, _ := slots.Read(p.d)
	own := regionsOf(200).state(turn+1, len(bytes))
	for _, elsewhere := range []api.Extent{at, {First: own.First + 1, Count: own.Count}, {First: own.First - 1, Count: own.Count}, {First: own.First, Count: own.Count + 1}, {First: 2, Count: own.Count}, {First: 199 - own.Count, Count: own.Count}} {
		d := copyOf(t, p.d)
		if errno := slots.Lay(d, elsewhere, turn+1, bytes); errno != api.OK {
			t.Fatal(errno)
		}
		if s, errno := Open(d); s != nil || errno != api.ErrCorrupt {
			t.Error(elsewhere, errno)
		}
	}
	d := copyOf(t, p.d)
	laid(t, d, turn+1, bytes)
	if _, errno := Open(d); errno != api.OK {
		t.Error(errno)
	}
	// A turn that does not follow the one in the other slot.
	for _, later := range []int{turn + 2, turn + 3, turn + 8} {
		d := copyOf(t, p.d)
		laid(t, d, later, bytes)
		if s, errno := Open(d); s != nil || errno != api.ErrCorrupt {
			t.Error(later, errno)
		}
	}
}

// Records that no store wrote, with their sums.
func TestRecordsThatNoStoreWrote(t *testing.T) {
	t.Parallel()
	var records []string
	rows := []api.Row{pairs(1, 1)[0], pairs(3, 1)[0]}
	good := []deed{
		{kind: doInsert, table: "t", rows: rows}, {kind: doInsert, table: "t"}, {kind: doDelete, table: "t", numbers: listOfNumbers(2, 3, 6)}, {kind: doDelete, table: "u"},
		{kind: doAdvance}, {kind: doRaise, low: 3},
	}
	r := stir(4)
	for _, one := range good {
		s := one.put()
		got, errno := takeDeed(s)
		if errno != api.OK || got.put() != s {
			t.Errorf("%q: %v, %d", s, got, errno)
		}
		records = append(records, s, s+"\x00", s+"x")
		for k := range len(s) {
			records = append(records, s[:k], s[:k]+string([]byte{s[k] ^ 1<<r.below(8)})+s[k+1:], s[:k]+string([]byte{byte(r.below(256))})+s[k+1:], s[:k]+s[k+1:])
		}
	}
	for _, one := range []deed{
		{kind: 0}, {kind: 5}, {kind: -1}, {kind: great}, {kind: doInsert, table: "nobody"}, {kind: doInsert, table: "t", rows: []api.Row{nums(1)}}, {kind: doInsert, table: "t", rows: []api.Row{nil}},
		{kind: doInsert, table: "t", rows: slices.Repeat(rows, 33)}, {kind: doDelete, table: "t", numbers: listOfNumbers(4000)}, {kind: doDelete, table: "t", numbers: listOfNumbers(0)}, {kind: doRaise, low: 1}, {kind: doRaise, low: least}, {kind: doRaise, low: great},
	} {
		records = append(records, one.put())
	}
	for _, bounds := range [][]int{{1}, {1, 2, 3}, {2, 1}, {1, 1}, {-1, 1}, {0, 65537}, {3, 4, 2, 3}} {
		records = append(records, vint.Put(doDelete)+sized("t")+vint.PutAll(bounds))
	}
	p := made(t, 200, scene()...)
	p.s = opened(t, p.d)
	p.do(advances())
	isOpen := 0
	for _, s := range records {
		d := copyOf(t, p.d)
		if s == "" {
			continue
		}
		if errno := adding(t, d).Add(s); errno != api.OK {
			t.Fatal(errno)
		}
		o, errno := Open(d)
		if errno == api.OK {
			isOpen++
			answersAnything(o)
		} else if o != nil || errno != api.ErrCorrupt {
			t.Fatal(o, errno)
		}
	}
	if isOpen < len(good) || isOpen == len(records) {
		t.Error(isOpen, "of", len(records), "are opened")
	}
}

func TestOpenAnyBytes(t *testing.T) {
	t.Parallel()
	r := stir(5)
	for k := range 300 {
		d := newDevice(t, 100)
		for at := range 100 {
			if r.below(4) > k%4 {
				continue
			}
			b := make([]byte, 128)
			for n := range b {
				b[n] = byte(r.below(256))
			}
			d.Spoil(at, string(b))
		}
		if s, errno := Open(d); errno == api.OK {
			answersAnything(s)
		} else if errno != api.ErrCorrupt {
			t.Fatal(errno)
		}
	}
}
