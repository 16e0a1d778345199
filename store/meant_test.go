package store

import (
	"cmp"
	"fmt"
	"math"
	"peristyle/api"
	"peristyle/device"
	"peristyle/poslist"
	"peristyle/schema"
	"slices"
	"strings"
	"testing"
)

const (
	enough = 2000    // blocks with which there is room
	most   = 1 << 12 // blocks of a device, and rows of a table
	batch  = 64      // rows that are inserted at once
	unlaid = 1 << 9  // rows of a table that are not laid
	places = 1 << 16 // that a list may have
	least  = math.MinInt
	great  = math.MaxInt
)

// num is a number's cell, txt a text's.
func num(n int) api.Cell { return api.Cell{Kind: api.Int, N: n} }

func txt(s string) api.Cell { return api.Cell{Kind: api.Text, S: s} }

// nums are numbers as a row.
func nums(l ...int) api.Row {
	var made api.Row
	for _, n := range l {
		made = append(made, num(n))
	}
	return made
}

// xs is a text of so many bytes.
func xs(count int) string { return strings.Repeat("x", count) }

// ints are so many rows of a number each, from one on.
func ints(from, count int) []api.Row {
	l := make([]api.Row, count)
	for k := range l {
		l[k] = nums(from + k)
	}
	return l
}

// Columns of numbers and of texts, that may be null, or not.
func intCol(name string) api.Column { return api.Column{Name: name, Kind: api.Int} }

func textCol(name string) api.Column { return api.Column{Name: name, Kind: api.Text} }

func nullCol(name string, kind int) api.Column { return api.Column{Name: name, Kind: kind, Null: true} }

// two are a number and a text that may be null.
func two() []api.Column { return []api.Column{intCol("a"), nullCol("b", api.Text)} }

// pairs are so many rows of two.
func pairs(from, count int) []api.Row {
	l := make([]api.Row, count)
	for k := range l {
		n := from + k
		l[k] = api.Row{num(n * 7 % 11), txt(string([]byte{'a' + byte(n%5), 'a' + byte(n%26)}))}
		if n%4 == 3 {
			l[k][1] = api.Cell{}
		}
	}
	return l
}

// from are the numbers from one on, below another.
func from(lo, hi int) []int {
	var l []int
	for k := lo; k < hi; k++ {
		l = append(l, k)
	}
	return l
}

// stirrer gives numbers that look like any.
type stirrer struct{ word uint64 }

func stir(seed int) *stirrer { return &stirrer{uint64(seed)*2 + 1} }

func (r *stirrer) below(n int) int {
	r.word = r.word*6364136223846793005 + 1442695040888963407
	return int(r.word>>33) % n
}

func one[T any](r *stirrer, l []T) T { return l[r.below(len(l))] }

// mixed is a list in another order.
func mixed[T any](r *stirrer, l []T) []T {
	l = slices.Clone(l)
	for k := range l {
		n := k + r.below(len(l)-k)
		l[k], l[n] = l[n], l[k]
	}
	return l
}

// model is what the chapter's words say of a store: of each table all lives, of which the first ones, so many, are laid.
type model struct {
	clock  api.Clock
	tables []api.Table
	lives  [][]api.Live
	laid   []int
}

func modelOf() *model { return &model{clock: api.Clock{Now: 1, Low: 1}} }

func (m *model) copied() *model {
	c := *m
	c.tables, c.lives, c.laid = slices.Clone(m.tables), slices.Clone(m.lives), slices.Clone(m.laid)
	for k := range c.lives {
		c.lives[k] = slices.Clone(c.lives[k])
	}
	return &c
}

func (m *model) find(name string) int {
	return slices.IndexFunc(m.tables, func(t api.Table) bool { return t.Name == name })
}

// changed lets the model have tables that layer 25 told.
func (m *model) changed(l []api.Table, errno api.Errno) api.Errno {
	if errno == api.OK {
		m.tables = l
	}
	return errno
}

func (m *model) create(name string, columns []api.Column) api.Errno {
	errno := m.changed(schema.Create(m.tables, name, columns))
	if errno == api.OK {
		m.lives, m.laid = append(m.lives, nil), append(m.laid, 0)
	}
	return errno
}

func (m *model) drop(name string) api.Errno {
	k := m.find(name)
	errno := m.changed(schema.Drop(m.tables, name))
	if errno == api.OK {
		m.lives, m.laid = slices.Delete(m.lives, k, k+1), slices.Delete(m.laid, k, k+1)
	}
	return errno
}

// fits tells whether a row may stand in columns.
func fits(row api.Row, columns []api.Column) bool {
	if len(row) != len(columns) {
		return false
	}
	for k, c := range row {
		switch {
		case c == api.Cell{}:
			if !columns[k].Null {
				return false
			}
		case c.Kind != columns[k].Kind, c.Kind == api.Int && c.S != "", c.Kind == api.Text && (c.N != 0 || len(c.S) > 32):
			return false
		}
	}
	return true
}

func (m *model) insert(name string, rows []api.Row) api.Errno {
	k := m.find(name)
	if k < 0 {
		return api.ErrNone
	}
	for _, row := range rows {
		if !fits(row, m.tables[k].Columns) {
			return api.ErrArg
		}
	}
	if len(rows) > batch || len(m.lives[k])+len(rows) > most {
		return api.ErrLimit
	}
	for _, row := range rows {
		m.lives[k] = append(m.lives[k], api.Live{Row: slices.Clone(row), Born: m.clock.Now})
	}
	return api.OK
}

func (m *model) delete(name string, numbers []int) api.Errno {
	k := m.find(name)
	if k < 0 {
		return api.ErrNone
	}
	for _, n := range numbers {
		if n >= len(m.lives[k]) || m.lives[k][n].Gone != 0 {
			return api.ErrNone
		}
	}
	for _, n := range numbers {
		m.lives[k][n].Gone = m.clock.Now
	}
	return api.OK
}

func (m *model) advance() api.Errno {
	if m.clock.Now == 1<<40 {
		return api.ErrLimit
	}
	m.clock.Now++
	return api.OK
}

func (m *model) raise(low int) api.Errno {
	if low < m.clock.Low || low > m.clock.Now {
		return api.ErrEpoch
	}
	m.clock.Low = low
	return api.OK
}

func (m *model) move(name string) api.Errno {
	k := m.find(name)
	if k < 0 {
		return api.ErrNone
	}
	var stay []api.Live
	for _, life := range m.lives[k] {
		if life.Gone == 0 || life.Gone > m.clock.Low {
			stay = append(stay, life)
		}
	}
	m.lives[k], m.laid[k] = stay, len(stay)
	return api.OK
}

// alive are the numbers of the rows of a table that did not go.
func (m *model) alive(k int) []int {
	var l []int
	for n, life := range m.lives[k] {
		if life.Gone == 0 {
			l = append(l, n)
		}
	}
	return l
}

// rows is how many there are in all.
func (m *model) rows() int {
	all := 0
	for _, l := range m.lives {
		all += len(l)
	}
	return all
}

// mayBeFull tells whether a call that writes may be answered by ErrFull, which would lead from one model to another.
func mayBeFull(blocks int, ahead, behind *model) bool {
	may := blocks < enough
	for _, m := range []*model{ahead, behind} {
		may = may || len(m.tables) > 4 || m.rows() > 100
		for k, t := range m.tables {
			may = may || len(t.Projections) > 3 || len(t.Columns) > 4 || len(m.lives[k])-m.laid[k] > unlaid
		}
	}
	return may
}

// compared tells which of two cells stands first.
func compared(a, b api.Cell) int {
	return cmp.Or(cmp.Compare(a.Kind, b.Kind), cmp.Compare(a.N, b.N), strings.Compare(a.S, b.S))
}

// project are the cells of some columns.
func project(row api.Row, cols []int) api.Row {
	made := api.Row{}
	for _, col := range cols {
		made = append(made, row[col])
	}
	return made
}

// order is which row stands where in a projection of the rows that are laid.
func (m *model) order(k, p int) []int {
	which := m.tables[k].Projections[p]
	l := from(0, m.laid[k])
	slices.SortStableFunc(l, func(a, b int) int {
		for _, col := range which.Cols[:which.Keys] {
			if c := compared(m.lives[k][a].Row[col], m.lives[k][b].Row[col]); c != 0 {
				return c
			}
		}
		return 0
	})
	return l
}

func seen(life api.Live, e int) bool { return life.Born <= e && (life.Gone == 0 || life.Gone > e) }

// visible are the places of a projection whose rows are seen in an epoch.
func (m *model) visible(k, p, e int) []int {
	var l []int
	for at, n := range m.order(k, p) {
		if seen(m.lives[k][n], e) {
			l = append(l, at)
		}
	}
	return l
}

// epochs are those that are worth asking: all that can be, and some that can not.
func (m *model) epochs() []int {
	l := []int{least, -1, 0, m.clock.Now + 1, great}
	for e := max(1, m.clock.Low-1); e <= m.clock.Now; e++ {
		l = append(l, e)
	}
	return l
}

// sameLives tells whether lives are the same.
func sameLives(a, b []api.Live) bool {
	return slices.EqualFunc(a, b, func(x, y api.Live) bool {
		return x.Born == y.Born && x.Gone == y.Gone && slices.Equal(x.Row, y.Row)
	})
}

func sameRows(a, b []api.Row) bool {
	return slices.EqualFunc(a, b, func(x, y api.Row) bool { return slices.Equal(x, y) })
}

func sameTable(a, b api.Table) bool {
	return a.Name == b.Name && slices.Equal(a.Columns, b.Columns) &&
		slices.EqualFunc(a.Projections, b.Projections, func(x, y api.Projection) bool {
			return x.Name == y.Name && x.Keys == y.Keys && slices.Equal(x.Cols, y.Cols)
		})
}

// differs tells in what a store is not what a model is; nothing, if it is the same.
func differs(s *Store, m *model) string {
	if !slices.EqualFunc(s.Tables(), m.tables, sameTable) {
		return fmt.Sprintf("Tables %v, not %v", s.Tables(), m.tables)
	}
	if s.Clock() != m.clock {
		return fmt.Sprintf("Clock %v, not %v", s.Clock(), m.clock)
	}
	for k, t := range m.tables {
		l, laid, errno := s.Lives(t.Name)
		if errno != api.OK || laid != m.laid[k] || !sameLives(l, m.lives[k]) {
			return fmt.Sprintf("Lives of %s: %v, %d, %d, not %v, %d", t.Name, l, laid, errno, m.lives[k], m.laid[k])
		}
		v, errno := s.View(t.Name)
		if errno != api.OK {
			return fmt.Sprintf("View of %s: %d", t.Name, errno)
		}
		if d := viewDiffers(v, m, k); d != "" {
			return "View of " + t.Name + ": " + d
		}
	}
	if l, laid, errno := s.Lives("nobody"); l != nil || laid != 0 || errno != api.ErrNone {
		return "Lives of no table"
	}
	if v, errno := s.View("nobody"); v != nil || errno != api.ErrNone {
		return "View of no table"
	}
	return ""
}

// viewDiffers is the same of a view, and of a table of a model.
func viewDiffers(v *View, m *model, k int) string {
	t := m.tables[k]
	if !sameTable(v.Table(), t) {
		return fmt.Sprintf("Table %v, not %v", v.Table(), t)
	}
	if w := v.Write(); !sameLives(w.Lives(), m.lives[k][m.laid[k]:]) || w.Left() != unlaid-w.Count() {
		return fmt.Sprintf("Write %v, not %v", w.Lives(), m.lives[k][m.laid[k]:])
	}
	for p := range t.Projections {
		if d := projectionDiffers(v, m, k, p); d != "" {
			return fmt.Sprintf("projection %d: %s", p, d)
		}
	}
	for _, p := range []int{least, -1, len(t.Projections), great} {
		if l, errno := v.Visible(p, m.clock.Now); v.Reader(p) != nil || v.Order(p) != nil || l.Count() != 0 || errno != api.ErrArg {
			return fmt.Sprintf("a projection %d", p)
		}
	}
	return ""
}

func projectionDiffers(v *View, m *model, k, p int) string {
	order := m.order(k, p)
	if got := v.Order(p); !slices.Equal(got, order) {
		return fmt.Sprintf("Order %v, not %v", got, order)
	}
	var rows []api.Row
	which := m.tables[k].Projections[p]
	for _, n := range order {
		rows = append(rows, project(m.lives[k][n].Row, which.Cols))
	}
	reader := v.Reader(p)
	all, _ := poslist.All(len(order))
	got, errno := reader.Rows(from(0, len(which.Cols)), all)
	if reader.Count() != len(order) || errno != api.OK || !sameRows(got, rows) {
		return fmt.Sprintf("Rows %v, %d, not %v", got, errno, rows)
	}
	if where, errno := reader.Seek(nil); errno != api.OK || where != (api.Span{Lo: 0, Hi: len(order)}) {
		return fmt.Sprintf("Seek %v, %d", where, errno)
	}
	if _, errno := reader.Seek(make(api.Row, which.Keys+1)); errno != api.ErrArg {
		return fmt.Sprintf("Seek of %d keys: %d", which.Keys+1, errno)
	}
	for _, e := range m.epochs() {
		l, errno := v.Visible(p, e)
		if want := m.visible(k, p, e); errno != api.OK || !slices.Equal(slices.Collect(l.Places()), want) {
			return fmt.Sprintf("Visible in %d: %v, %d, not %v", e, l.Spans(), errno, want)
		}
	}
	return ""
}

// call is one that writes: of a store, and what the chapter's words say of it, but for room and power.
type call struct {
	name string
	on   func(s *Store) api.Errno
	in   func(m *model) api.Errno
}

func creates(name string, columns ...api.Column) call {
	return call{"Create " + name, func(s *Store) api.Errno { return s.Create(name, columns) }, func(m *model) api.Errno { return m.create(name, columns) }}
}

func drops(name string) call {
	return call{"Drop " + name, func(s *Store) api.Errno { return s.Drop(name) }, func(m *model) api.Errno { return m.drop(name) }}
}

func adds(table, name string, keys int, cols ...int) call {
	p := api.Projection{Name: name, Cols: cols, Keys: keys}
	return call{fmt.Sprint("Add ", table, p), func(s *Store) api.Errno { return s.Add(table, p) }, func(m *model) api.Errno { return m.changed(schema.Add(m.tables, table, p)) }}
}

func removes(table, name string) call {
	return call{"Remove " + table + " " + name, func(s *Store) api.Errno { return s.Remove(table, name) }, func(m *model) api.Errno { return m.changed(schema.Remove(m.tables, table, name)) }}
}

func inserts(table string, rows ...api.Row) call {
	return call{fmt.Sprint("Insert ", table, len(rows)), func(s *Store) api.Errno { return s.Insert(table, rows) }, func(m *model) api.Errno { return m.insert(table, rows) }}
}

func deletes(table string, numbers ...int) call {
	return deletesIn(table, 0, numbers)
}

// deletesIn gives the numbers in a form; 0 is the best one.
func deletesIn(table string, form int, numbers []int) call {
	l, errno := poslist.From(numbers)
	if form != 0 {
		l, errno = l.As(form)
	}
	if errno != api.OK {
		panic("no list")
	}
	return call{fmt.Sprint("Delete ", table, numbers), func(s *Store) api.Errno { return s.Delete(table, l) }, func(m *model) api.Errno { return m.delete(table, numbers) }}
}

func advances() call {
	return call{"Advance", func(s *Store) api.Errno { return s.Advance() }, func(m *model) api.Errno { return m.advance() }}
}

func raises(low int) call {
	return call{fmt.Sprint("Raise ", low), func(s *Store) api.Errno { return s.Raise(low) }, func(m *model) api.Errno { return m.raise(low) }}
}

func moves(table string) call {
	return call{"Move " + table, func(s *Store) api.Errno { return s.Move(table) }, func(m *model) api.Errno { return m.move(table) }}
}

// pair is a store, on its device, beside a model.
type pair struct {
	t *testing.T
	d *device.Device
	s *Store
	m *model
}

func newDevice(t *testing.T, blocks int) *device.Device {
	t.Helper()
	d, errno := device.New(blocks)
	if errno != api.OK {
		t.Fatal(errno)
	}
	return d
}

func opened(t *testing.T, d *device.Device) *Store {
	t.Helper()
	s, errno := Open(d)
	if s == nil || errno != api.OK {
		t.Fatalf("Open: %v, %d", s, errno)
	}
	return s
}

// made is a store of a new device, that did some calls.
func made(t *testing.T, blocks int, calls ...call) *pair {
	t.Helper()
	d := newDevice(t, blocks)
	p := &pair{t, d, opened(t, d), modelOf()}
	p.do(calls...)
	return p
}

// try does a call, and tells what was answered, that must be what it is meant to, or ErrFull, where that may be.
func (p *pair) try(c call) api.Errno {
	p.t.Helper()
	behind := p.m.copied()
	want := c.in(behind)
	got := c.on(p.s)
	if got == api.ErrFull && want == api.OK && mayBeFull(p.d.Size(), p.m, behind) {
		return got
	}
	if got != want {
		p.t.Fatalf("%s: %d, not %d", c.name, got, want)
	}
	if got == api.OK {
		p.m = behind
	}
	return got
}

// do does calls, none of which may be refused.
func (p *pair) do(calls ...call) {
	p.t.Helper()
	for _, c := range calls {
		if errno := p.try(c); errno != api.OK {
			p.t.Fatalf("%s: %d", c.name, errno)
		}
	}
}

// refuses does a call that is refused so, and changes nothing, behind a crash neither.
func (p *pair) refuses(errno api.Errno, c call) {
	p.t.Helper()
	if got := c.on(p.s); got != errno {
		p.t.Fatalf("%s: %d, not %d", c.name, got, errno)
	}
	if errno != api.ErrFull {
		if want := c.in(p.m.copied()); want != errno {
			p.t.Fatalf("%s is meant to be %d, not %d", c.name, want, errno)
		}
	}
	p.same(c.name)
}

// same tells whether the store is what the model is, and so is what is opened of its device as it is.
func (p *pair) same(what string) {
	p.t.Helper()
	if d := differs(p.s, p.m); d != "" {
		p.t.Fatalf("behind %s: %s", what, d)
	}
	if l := p.d.Waiting(); len(l) > 0 {
		p.t.Fatalf("behind %s writes wait: %v", what, l)
	}
	if d := differs(opened(p.t, p.d), p.m); d != "" {
		p.t.Fatalf("opened behind %s: %s", what, d)
	}
}

// reopen lets a crash come, and opens the device anew.
func (p *pair) reopen() {
	p.t.Helper()
	p.d.Crash(nil)
	p.s = opened(p.t, p.d)
	p.same("a crash")
}

// copyOf is a device with the same blocks.
func copyOf(t *testing.T, d *device.Device) *device.Device {
	t.Helper()
	c := newDevice(t, d.Size())
	for at := range d.Size() {
		s, errno := d.Read(at)
		if errno != api.OK || c.Spoil(at, s) != api.OK {
			t.Fatal("no copy")
		}
	}
	return c
}

// listed is a list in each form, and as it is the best.
func listed(t *testing.T, numbers []int) []poslist.List {
	t.Helper()
	l, errno := poslist.From(numbers)
	if errno != api.OK {
		t.Fatal(errno)
	}
	all := []poslist.List{l}
	for _, form := range []int{api.FormSpans, api.FormWords, api.FormPlaces} {
		in, errno := l.As(form)
		if errno != api.OK {
			t.Fatal(errno)
		}
		all = append(all, in)
	}
	return all
}

// listOfNumbers is a list of numbers that may be.
func listOfNumbers(numbers ...int) poslist.List {
	l, errno := poslist.From(numbers)
	if errno != api.OK {
		panic("no list")
	}
	return l
}

// seenRows are the rows of a table that are seen in an epoch, in order.
func seenRows(l []api.Live, e int) []api.Row {
	var rows []api.Row
	for _, life := range l {
		if seen(life, e) {
			rows = append(rows, life.Row)
		}
	}
	return rows
}
