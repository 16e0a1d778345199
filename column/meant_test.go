package column

import (
	"cmp"
	"math"
	"math/big"
	"peristyle/api"
	"peristyle/block"
	"peristyle/device"
	"peristyle/extent"
	"peristyle/poslist"
	"peristyle/test"
	"reflect"
	"slices"
	"strings"
	"testing"
)

const (
	least = math.MinInt
	great = math.MaxInt
	most  = 64      // cells of a block
	rows  = 1 << 12 // cells of a column, at most
	bound = 1 << 16 // of places
	size  = 128     // bytes of a device's block
)

// num is a number's cell, txt a text's.
func num(n int) api.Cell { return api.Cell{Kind: api.Int, N: n} }

func txt(s string) api.Cell { return api.Cell{Kind: api.Text, S: s} }

// nums are numbers as cells.
func nums(l ...int) []api.Cell {
	var made []api.Cell
	for _, n := range l {
		made = append(made, num(n))
	}
	return made
}

// txts are texts as cells.
func txts(l ...string) []api.Cell {
	var made []api.Cell
	for _, s := range l {
		made = append(made, txt(s))
	}
	return made
}

// xs is a text of so many bytes.
func xs(count int) string { return strings.Repeat("x", count) }

// asked is a test.
func asked(op int, val api.Cell) api.Test { return api.Test{Op: op, Val: val} }

// isNone and isSome are the two that have no Val.
var (
	isNone = api.Test{Op: api.TestNull}
	isSome = api.Test{Op: api.TestSome}
)

// valued are the ops that hold a cell against Val.
func valued() []int {
	return []int{api.TestEq, api.TestNe, api.TestLt, api.TestLe, api.TestGt, api.TestGe}
}

// tests are all that may be, of each op with each of some values.
func tests(vals []api.Cell) []api.Test {
	l := []api.Test{isNone, isSome}
	for _, op := range valued() {
		for _, val := range vals {
			l = append(l, asked(op, val))
		}
	}
	return l
}

// oddCells may not be, whatever the kind is.
func oddCells() []api.Cell {
	return []api.Cell{{N: 1}, {S: "a"}, {Kind: api.Int, S: "a"}, {Kind: api.Text, N: 7}, {Kind: api.Text, N: 7, S: "a"}, {Kind: 3}, {Kind: -1}, {Kind: least}, {Kind: great}, txt(xs(33)), txt(xs(300))}
}

// noTests are tests that may not be, each by its Op, or by its Val.
func noTests() []api.Test {
	var l []api.Test
	for _, op := range []int{0, -1, 9, 10, 257, 264, 1<<32 + 1, least, great} {
		for _, val := range []api.Cell{{}, num(7), txt("a")} {
			l = append(l, asked(op, val))
		}
	}
	for _, op := range valued() {
		for _, val := range append(oddCells(), api.Cell{}) {
			l = append(l, asked(op, val))
		}
	}
	for _, op := range []int{api.TestNull, api.TestSome} {
		for _, val := range append(oddCells(), num(0), num(7), txt(""), txt("a")) {
			l = append(l, asked(op, val))
		}
	}
	return l
}

// kinds are those of columns.
func kinds() []int { return []int{api.Int, api.Text} }

// noKinds are none of columns.
func noKinds() []int { return []int{api.Null, 3, -1, 256, 257, 258, 1<<32 + 1, least, great} }

// forms are the three of lists.
func forms() []int { return []int{api.FormSpans, api.FormWords, api.FormPlaces} }

// one is the list of places, in the best form.
func one(t *testing.T, places ...int) poslist.List {
	t.Helper()
	l, e := poslist.From(places)
	if e != api.OK {
		t.Fatalf("poslist.From(%v): %d", places, e)
	}
	return l
}

// listed are the lists of places: the best one, and one in each form.
func listed(t *testing.T, places []int) []poslist.List {
	t.Helper()
	best := one(t, places...)
	l := []poslist.List{best}
	for _, form := range forms() {
		as, _ := best.As(form)
		l = append(l, as)
	}
	if len(places) == 0 {
		l = append(l, poslist.List{})
	}
	return l
}

// stirrer gives numbers by a fixed rule.
type stirrer struct{ word uint64 }

func stir(seed int) *stirrer { return &stirrer{uint64(seed)*2 + 1} }

func (s *stirrer) below(n int) int {
	s.word = s.word*6364136223846793005 + 1442695040888963407
	return int(s.word >> 33 % uint64(n))
}

// wide is a number of all bits.
func (s *stirrer) wide() int { return s.below(1<<31)<<33 ^ s.below(1<<31)<<10 ^ s.below(1<<10) }

// cells are so many of a list, of which one of so many is a null, and one of so many another one than that ahead.
func (s *stirrer) cells(from []api.Cell, count, nullOf, newOf int) []api.Cell {
	l := make([]api.Cell, count)
	value := from[s.below(len(from))]
	for k := range l {
		if s.below(newOf) == 0 {
			value = from[s.below(len(from))]
		}
		if s.below(nullOf) > 0 {
			l[k] = value
		}
	}
	return l
}

// where are the numbers below n that are wanted.
func where(n int, wanted func(at int) bool) []int {
	var l []int
	for at := range n {
		if wanted(at) {
			l = append(l, at)
		}
	}
	return l
}

// below are all places below n.
func below(n int) []int { return where(n, func(int) bool { return true }) }

// A device, and a map of blocks.

type ground struct {
	d *device.Device
	m *extent.Map
}

// made is a device, and a map of as many blocks.
func made(t *testing.T, blocks int) ground { return unlike(t, blocks, blocks) }

// unlike is a device of so many blocks, and a map of another number of them.
func unlike(t *testing.T, blocks, mapped int) ground {
	t.Helper()
	d, e := device.New(blocks)
	m, e2 := extent.New(mapped)
	if e != api.OK || e2 != api.OK {
		t.Fatalf("a device of %d, a map of %d: %d, %d", blocks, mapped, e, e2)
	}
	return ground{d, m}
}

// seen is all that can be told of a ground, but for a fuse.
type seen struct {
	blocks  []string
	waiting []int
	off     bool
	holes   []api.Extent
}

func (g ground) seen() seen {
	s := seen{waiting: g.d.Waiting(), off: g.d.Off(), holes: g.m.Holes()}
	for at := range g.d.Size() {
		bytes, _ := g.d.Read(at)
		s.blocks = append(s.blocks, bytes)
	}
	return s
}

// stays fails if something of a ground is not as it was.
func (g ground) stays(t *testing.T, was seen, behind string) {
	t.Helper()
	if now := g.seen(); !slices.Equal(now.blocks, was.blocks) || !slices.Equal(now.waiting, was.waiting) || now.off != was.off {
		t.Fatalf("%s: the device is not as it was: %v wait, not %v", behind, now.waiting, was.waiting)
	}
	g.mapStays(t, was, behind)
}

// mapStays fails if the map is not as it was.
func (g ground) mapStays(t *testing.T, was seen, behind string) {
	t.Helper()
	if now := g.m.Holes(); !slices.Equal(now, was.holes) {
		t.Fatalf("%s: the holes are %v, not %v", behind, now, was.holes)
	}
}

// turnedOff lets a device's power go off, with nothing else done.
func turnedOff(t *testing.T, d *device.Device) {
	t.Helper()
	d.Fuse(0)
	if e := d.Sync(); e != api.ErrOff || !d.Off() {
		t.Fatalf("Sync at a fuse: %d", e)
	}
}

// The chapter's words.

// order is below 0, if the first of two cells is ahead, above 0, if it is behind.
func order(a, b api.Cell) int {
	return cmp.Or(cmp.Compare(a.Kind, b.Kind), cmp.Compare(a.N, b.N), strings.Compare(a.S, b.S))
}

// passes tells whether a cell passes a test that may be.
func passes(q api.Test, c api.Cell) bool {
	if q.Op == api.TestNull || c.Kind == api.Null {
		return q.Op == api.TestNull && c.Kind == api.Null
	}
	stands := order(c, q.Val)
	return q.Op == api.TestSome ||
		q.Op == api.TestEq && stands == 0 || q.Op == api.TestNe && stands != 0 ||
		q.Op == api.TestLt && stands < 0 || q.Op == api.TestLe && stands <= 0 ||
		q.Op == api.TestGt && stands > 0 || q.Op == api.TestGe && stands >= 0
}

// cut are cells, 64 each, and what is left.
func cut(l []api.Cell) [][]api.Cell {
	var parts [][]api.Cell
	for from := 0; from < len(l); from += most {
		parts = append(parts, l[from:min(from+most, len(l))])
	}
	return parts
}

// zoned is the zone of cells.
func zoned(l []api.Cell) api.Zone {
	some := slices.DeleteFunc(slices.Clone(l), func(c api.Cell) bool { return c.Kind == api.Null })
	z := api.Zone{Nulls: len(l) - len(some), Count: len(l)}
	if len(some) > 0 {
		z.Min, z.Max = slices.MinFunc(some, order), slices.MaxFunc(some, order)
	}
	return z
}

// needs is how many of a device's blocks so many bytes need.
func needs(bytes int) int { return (bytes + size - 1) / size }

// best are the blocks of cells, as bytes.
func best(t *testing.T, l []api.Cell, kind int) []string {
	t.Helper()
	var all []string
	for _, part := range cut(l) {
		s, _, e := block.Best(part, kind)
		if e != api.OK {
			t.Fatalf("block.Best(%v, %d): %d", part, kind, e)
		}
		all = append(all, s)
	}
	return all
}

// laid are the refs and the blocks of a device that Lay must leave, and the holes of the map; false, if there is no room.
func laid(t *testing.T, g ground, l []api.Cell, kind int) ([]api.Ref, seen, bool) {
	t.Helper()
	now, m := g.seen(), g.m.Copy()
	var refs []api.Ref
	parts := cut(l)
	for k, s := range best(t, l, kind) {
		at, e := m.Alloc(needs(len(s)))
		if e != api.OK {
			return nil, seen{}, false
		}
		refs = append(refs, api.Ref{At: at, Bytes: len(s), Zone: zoned(parts[k])})
		s += strings.Repeat("\x00", at.Count*size-len(s))
		for n := range at.Count {
			if at.First+n < len(now.blocks) {
				now.blocks[at.First+n] = s[n*size:][:size]
			}
			now.waiting = append(now.waiting, at.First+n)
		}
	}
	now.holes = m.Holes()
	return refs, now, true
}

// bestForm is the form of rising places that costs least: 8 a span, 8 a word up to the last place's, 2 a place.
func bestForm(places []int) int {
	spans, words := 0, 0
	for k, at := range places {
		if k == 0 || places[k-1] != at-1 {
			spans++
		}
		words = at/64 + 1
	}
	form, cost := api.FormSpans, 8*spans
	if 8*words < cost {
		form, cost = api.FormWords, 8*words
	}
	if 2*len(places) < cost {
		form = api.FormPlaces
	}
	return form
}

// at are the cells at some places.
func at(l []api.Cell, places []int) []api.Cell {
	var made []api.Cell
	for _, place := range places {
		made = append(made, l[place])
	}
	return made
}

// summed is the sum of the numbers among cells.
func summed(l []api.Cell) *big.Int {
	sum := new(big.Int)
	for _, c := range l {
		if c.Kind == api.Int {
			sum.Add(sum, big.NewInt(int64(c.N)))
		}
	}
	return sum
}

// joined is 2^32 hi + lo.
func joined(hi, lo int) *big.Int {
	sum := new(big.Int).Lsh(big.NewInt(int64(hi)), 32)
	return sum.Add(sum, big.NewInt(int64(lo)))
}

// touched are the numbers of the blocks in which there are places, rising.
func touched(places []int) []int {
	var l []int
	for _, at := range places {
		l = append(l, at/most)
	}
	return slices.Compact(l)
}

// unsure are those of some blocks of which zones tell neither that none passes nor that all do.
func unsure(q api.Test, l []api.Cell, which []int) []int {
	parts := cut(l)
	return slices.DeleteFunc(slices.Clone(which), func(k int) bool {
		z := zoned(parts[k])
		return test.None(q, z) || test.All(q, z)
	})
}

// Calls, and what they must answer.

// lays is what Lay answers, of cells for which there is room.
func (g ground) lays(t *testing.T, l []api.Cell, kind int) []api.Ref {
	t.Helper()
	want, now, fits := laid(t, g, l, kind)
	if !fits {
		t.Fatalf("no room for %d cells", len(l))
	}
	refs, e := Lay(g.d, g.m, l, kind)
	if !slices.Equal(refs, want) || e != api.OK {
		t.Fatalf("Lay of %d cells of kind %d: %v, %d, not %v", len(l), kind, refs, e, want)
	}
	g.stays(t, now, "Lay")
	return refs
}

// laysNone fails if Lay does not answer that error alone, or the map is not as it was; the device, too, unless the power was off, or went off.
func (g ground) laysNone(t *testing.T, l []api.Cell, kind int, want api.Errno) {
	t.Helper()
	was := g.seen()
	refs, e := Lay(g.d, g.m, l, kind)
	if len(refs) != 0 || e != want {
		t.Fatalf("Lay of %d cells of kind %d: %v, %d, not %d alone", len(l), kind, refs, e, want)
	}
	if want == api.ErrOff {
		g.mapStays(t, was, "Lay without power")
	} else {
		g.stays(t, was, "Lay, refused")
	}
}

// opens is what Open answers, of refs that may be.
func (g ground) opens(t *testing.T, kind int, refs []api.Ref) *Column {
	t.Helper()
	c, e := Open(g.d, kind, refs)
	if c == nil || e != api.OK {
		t.Fatalf("Open(%d, %v): %t, %d", kind, refs, c != nil, e)
	}
	return c
}

// holds is a column that is laid, and opened.
func (g ground) holds(t *testing.T, l []api.Cell, kind int) *Column {
	t.Helper()
	return g.opens(t, kind, g.lays(t, l, kind))
}

// reads fails if a call did not read so many blocks.
func reads(t *testing.T, c *Column, was, want int, what string) {
	t.Helper()
	if got := c.Reads() - was; got != want {
		t.Fatalf("%s: %d blocks were read, not %d", what, got, want)
	}
}

// scans fails if Scan does not answer those of the places whose cells pass, in the best form, or reads other blocks than it must.
func scans(t *testing.T, c *Column, l []api.Cell, q api.Test, within poslist.List) {
	t.Helper()
	was, places := c.Reads(), slices.Collect(within.Places())
	want := slices.DeleteFunc(slices.Clone(places), func(at int) bool { return !passes(q, l[at]) })
	got, e := c.Scan(q, within)
	if own := slices.Collect(got.Places()); !slices.Equal(own, want) || e != api.OK {
		t.Fatalf("Scan(%v, %v): %v, %d, not %v", q, within.Spans(), got.Spans(), e, want)
	}
	if got.Form() != bestForm(want) {
		t.Fatalf("Scan(%v, %v): %v in the form %d, not %d", q, within.Spans(), want, got.Form(), bestForm(want))
	}
	reads(t, c, was, len(unsure(q, l, touched(places))), "Scan")
}

// gathers fails if Gather does not answer the cells at the places, or Sum their sum, or one of them reads other blocks than those of the places.
func gathers(t *testing.T, c *Column, l []api.Cell, kind int, list poslist.List) {
	t.Helper()
	was, places := c.Reads(), slices.Collect(list.Places())
	want := at(l, places)
	if got, e := c.Gather(list); !slices.Equal(got, want) || e != api.OK {
		t.Fatalf("Gather(%v): %v, %d, not %v", list.Spans(), got, e, want)
	}
	reads(t, c, was, len(touched(places)), "Gather")
	if kind != api.Int {
		sumsNone(t, c, list, api.ErrArg)
		return
	}
	was = c.Reads()
	hi, lo, e := c.Sum(list)
	if joined(hi, lo).Cmp(summed(want)) != 0 || lo < 0 || lo >= 1<<32 || e != api.OK {
		t.Fatalf("Sum(%v): %d, %d, %d, not %v", list.Spans(), hi, lo, e, summed(want))
	}
	reads(t, c, was, len(touched(places)), "Sum")
}

// scansNone, gathersNone and sumsNone fail if a call does not answer that error alone.
func scansNone(t *testing.T, c *Column, q api.Test, within poslist.List, want api.Errno) {
	t.Helper()
	if l, e := c.Scan(q, within); !reflect.DeepEqual(l, poslist.List{}) || e != want {
		t.Fatalf("Scan(%v, %v..): %v, %d, not %d alone", q, within.Slice(0, 9), l, e, want)
	}
}

func gathersNone(t *testing.T, c *Column, l poslist.List, want api.Errno) {
	t.Helper()
	if got, e := c.Gather(l); len(got) != 0 || e != want {
		t.Fatalf("Gather(%v..): %v, %d, not %d alone", l.Slice(0, 9), got, e, want)
	}
}

func sumsNone(t *testing.T, c *Column, l poslist.List, want api.Errno) {
	t.Helper()
	was := c.Reads()
	if hi, lo, e := c.Sum(l); hi != 0 || lo != 0 || e != want {
		t.Fatalf("Sum(%v..): %d, %d, %d, not %d alone", l.Slice(0, 9), hi, lo, e, want)
	}
	if want == api.ErrArg || want == api.ErrNone {
		reads(t, c, was, 0, "Sum, refused")
	}
}
