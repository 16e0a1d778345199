package column

import (
	"peristyle/api"
	"peristyle/block"
	"peristyle/device"
	"peristyle/extent"
	"peristyle/poslist"
	"slices"
	"sort"
	"strings"
	"testing"
)

// The cells that are laid.

// value is the value k of a kind by a manner: all the same, in runs, evenly spaced, few, small, or whatever.
type manner func(s *stirrer, k int) int

func manners() []manner {
	return []manner{
		func(s *stirrer, k int) int { return 7 },
		func(s *stirrer, k int) int { return -5 - k/13%3 },
		func(s *stirrer, k int) int { return 1<<40 + 1000*k },
		func(s *stirrer, k int) int { return 1<<60 + s.below(3)<<50 },
		func(s *stirrer, k int) int { return s.below(16) },
		func(s *stirrer, k int) int { return s.wide() },
	}
}

// text is a text that a number tells, by its size short or long.
func text(n int) string {
	b := []byte{}
	for n := uint64(n); n > 0; n /= 26 {
		b = append(b, byte('a'+n%26))
	}
	slices.Reverse(b)
	return string(b) + xs(int(uint64(n)%18))
}

// values are so many cells of a kind, by a manner.
func values(kind, count int, by manner) []api.Cell {
	s, l := stir(count), make([]api.Cell, count)
	for k := range l {
		if n := by(s, k); kind == api.Int {
			l[k] = num(n)
		} else {
			l[k] = txt(text(n))
		}
	}
	return l
}

// masks tell which cells are nulls: none, some, all, all of one block, all but one of a block.
var masks = []func(k int) bool{
	func(k int) bool { return false },
	func(k int) bool { return k%5 == 3 },
	func(k int) bool { return true },
	func(k int) bool { return k/most == 1 },
	func(k int) bool { return k/most == 0 && k != 9 || k%7 == 0 },
}

// masked are cells of which some are nulls.
func masked(l []api.Cell, isNull func(k int) bool) []api.Cell {
	l = slices.Clone(l)
	for k := range l {
		if isNull(k) {
			l[k] = api.Cell{}
		}
	}
	return l
}

// columns are cells of a kind, so many, of all manners, with nulls of all manners.
func columns(kind, count int) [][]api.Cell {
	var all [][]api.Cell
	for _, by := range manners() {
		for _, isNull := range masks {
			all = append(all, masked(values(kind, count, by), isNull))
		}
	}
	return all
}

// spaced are so many cells of a kind, rising, with gaps between.
func spaced(kind, count int) []api.Cell {
	l := make([]api.Cell, count)
	for k := range l {
		if kind == api.Int {
			l[k] = num(10 * (k - 100))
		} else {
			l[k] = txt("t" + string([]byte{byte(k >> 8), byte(k)}))
		}
	}
	return l
}

// filled are 64 texts of so many bytes together, each of up to so many, those behind them empty.
func filled(bytes, each int) []api.Cell {
	s, l := stir(each), make([]api.Cell, most)
	for k := range l {
		text := make([]byte, min(bytes, each))
		bytes -= len(text)
		for n := range text {
			text[n] = byte(s.below(256))
		}
		l[k] = txt(string(text))
	}
	return l
}

// sized are 64 texts whose block has so many bytes.
func sized(t *testing.T, bytes int) []api.Cell {
	t.Helper()
	of := func(l []api.Cell) int { return len(best(t, l, api.Text)[0]) }
	for each := 32; each > 0; each-- {
		total := sort.Search(most*each, func(total int) bool { return of(filled(total, each)) >= bytes })
		if l := filled(total, each); of(l) == bytes {
			return l
		}
	}
	t.Fatalf("no 64 texts have a block of %d bytes", bytes)
	return nil
}

// Co1

// The chapter's example.
func TestExample(t *testing.T) {
	g := made(t, 40)
	refs, e := Lay(g.d, g.m, spaced(api.Int, 100), api.Int)
	if len(refs) != 2 || refs[0].Zone.Count != 64 || refs[1].Zone.Count != 36 || e != api.OK {
		t.Errorf("Lay of 100 numbers: %v, %d", refs, e)
	}
}

func TestLay(t *testing.T) {
	g := made(t, 40)
	var l []api.Cell
	for k := range 150 {
		l = append(l, num(k))
	}
	l[3], l[70] = api.Cell{}, num(-9)
	refs, e := Lay(g.d, g.m, l, api.Int)
	if len(refs) != 3 || e != api.OK {
		t.Fatalf("Lay: %v, %d", refs, e)
	}
	at := 0
	for k, want := range []api.Zone{{Min: num(0), Max: num(63), Nulls: 1, Count: 64}, {Min: num(-9), Max: num(127), Count: 64}, {Min: num(128), Max: num(149), Count: 22}} {
		s, _, _ := block.Best(l[k*64:min(k*64+64, 150)], api.Int)
		if ref := refs[k]; ref != (api.Ref{At: api.Extent{First: at, Count: needs(len(s))}, Bytes: len(s), Zone: want}) {
			t.Errorf("the ref %d: %v, not of %d bytes, %v", k, ref, len(s), want)
		}
		for n := range needs(len(s)) {
			got, _ := g.d.Read(at + n)
			if want := (s + strings.Repeat("\x00", 128))[n*128:]; got != want[:128] {
				t.Errorf("the block %d: %q, not %q", at+n, got, want[:128])
			}
		}
		at += needs(len(s))
	}
	if holes := g.m.Holes(); !slices.Equal(holes, []api.Extent{{First: at, Count: 40 - at}}) || !slices.Equal(g.d.Waiting(), below(at)) {
		t.Errorf("the holes are %v, and %v wait", holes, g.d.Waiting())
	}
}

// Refs, blocks and the map are as the words say, and what was laid is gathered as it was (Co4).
func TestLayOfEachCount(t *testing.T) {
	for _, kind := range kinds() {
		for _, count := range []int{0, 1, 2, 63, 64, 65, 127, 128, 129, 200} {
			for _, l := range columns(kind, count) {
				g := made(t, 80)
				c := g.holds(t, l, kind)
				gathers(t, c, l, kind, one(t, below(count)...))
			}
		}
	}
}

func TestLayOfAsManyAsMayBe(t *testing.T) {
	for _, kind := range kinds() {
		for k, by := range manners() {
			for _, isNull := range masks {
				if k > 1 && k < 5 && isNull(0) {
					continue
				}
				l := masked(values(kind, rows, by), isNull)
				g := made(t, 1500)
				c := g.holds(t, l, kind)
				gathers(t, c, l, kind, one(t, below(rows)...))
				g.laysNone(t, append(l, l[0]), kind, api.ErrArg)
				g.laysNone(t, make([]api.Cell, rows+1), kind, api.ErrArg)
			}
		}
		g := made(t, 1)
		for _, count := range []int{rows + 1, rows + 64, 2 * rows, 1 << 16} {
			g.laysNone(t, spaced(kind, count), kind, api.ErrArg)
		}
		g.laysNone(t, spaced(kind, rows), kind, api.ErrFull)
	}
}

// Blocks of more than one of a device's, and of just as many bytes as some of these have.
func TestLayOfLongBlocks(t *testing.T) {
	for _, bytes := range []int{127, 128, 129, 255, 256, 257, 1023, 1024, 1025, 2048, 2120} {
		for _, count := range []int{1, 2, 3} {
			var l []api.Cell
			for range count {
				l = append(l, sized(t, bytes)...)
			}
			l = append(l, txts("a", "b")...)
			g := made(t, 80)
			refs := g.lays(t, l, api.Text)
			for _, ref := range refs[:count] {
				if ref.Bytes != bytes || ref.At.Count != needs(bytes) {
					t.Fatalf("%v, not %d bytes", ref, bytes)
				}
			}
			gathers(t, g.opens(t, api.Text, refs), l, api.Text, one(t, below(len(l))...))
		}
	}
}

func TestLayOfCellsThatMayNotBe(t *testing.T) {
	for _, kind := range kinds() {
		other := []api.Cell{txt(""), txt("a"), txt("7")}
		if kind == api.Text {
			other = nums(0, 7, least)
		}
		for _, c := range append(oddCells(), other...) {
			for _, count := range []int{1, 2, 64, 65, 129, 300} {
				for _, at := range []int{0, count / 2, count - 1} {
					for _, isNull := range masks[:3] {
						l := masked(spaced(kind, count), isNull)
						l[at] = c
						made(t, 9).laysNone(t, l, kind, api.ErrArg)
						// There is no room, either: which is told later.
						full := made(t, 1)
						full.m.Alloc(1)
						full.laysNone(t, l, kind, api.ErrArg)
					}
				}
			}
			l := spaced(kind, rows)
			l[rows-1] = c
			made(t, 200).laysNone(t, l, kind, api.ErrArg)
		}
	}
}

func TestLayOfNoKind(t *testing.T) {
	for _, kind := range noKinds() {
		for _, l := range [][]api.Cell{nil, {}, make([]api.Cell, 1), nums(1), txts("a"), {num(1), {}}, {{Kind: kind}}, spaced(api.Int, 65)} {
			made(t, 4).laysNone(t, l, kind, api.ErrArg)
		}
	}
}

// A device and a map must be there, whatever the cells are.
func TestLayWithoutADeviceOrAMap(t *testing.T) {
	for _, l := range [][]api.Cell{nil, nums(1), spaced(api.Int, 200), {{Kind: 9}}, txts("a"), spaced(api.Int, rows+1)} {
		for _, kind := range []int{api.Int, api.Text, api.Null, 7} {
			g := made(t, 20)
			was := g.seen()
			for _, d := range []*device.Device{nil, {}} {
				for _, m := range []*extent.Map{nil, {}, g.m} {
					if refs, e := Lay(d, m, l, kind); len(refs) != 0 || e != api.ErrArg {
						t.Fatalf("Lay without a device: %v, %d", refs, e)
					}
				}
			}
			for _, m := range []*extent.Map{nil, {}} {
				if refs, e := Lay(g.d, m, l, kind); len(refs) != 0 || e != api.ErrArg {
					t.Fatalf("Lay without a map: %v, %d", refs, e)
				}
			}
			g.stays(t, was, "Lay without a device or a map")
			turnedOff(t, g.d)
			if refs, e := Lay(g.d, nil, l, kind); len(refs) != 0 || e != api.ErrArg {
				t.Fatalf("Lay without a map and without power: %v, %d", refs, e)
			}
		}
	}
}

// holed is a ground whose map has these holes alone.
func holed(t *testing.T, blocks int, holes ...api.Extent) ground {
	t.Helper()
	g := made(t, blocks)
	g.m.Take(api.Extent{First: 0, Count: blocks})
	for _, hole := range holes {
		if e := g.m.Free(hole); e != api.OK {
			t.Fatalf("the hole %v: %d", hole, e)
		}
	}
	return g
}

// Holes that are just long enough, one block too short, and none; a block that finds none behind some that did.
func TestLayIntoHoles(t *testing.T) {
	two, three, one := sized(t, 200), sized(t, 300), spaced(api.Text, 2)
	all := slices.Concat(two, three, one) // needs 2, 3 and 1 blocks
	e := func(first, count int) api.Extent { return api.Extent{First: first, Count: count} }
	for _, x := range []struct {
		l     []api.Cell
		holes []api.Extent
		want  []api.Extent // nil: there is no room
	}{
		{one, []api.Extent{e(5, 1)}, []api.Extent{e(5, 1)}},
		{one, nil, nil},
		{two, []api.Extent{e(5, 2)}, []api.Extent{e(5, 2)}},
		{two, []api.Extent{e(5, 1)}, nil},
		{two, []api.Extent{e(5, 1), e(7, 1), e(9, 1), e(39, 1)}, nil},
		{two, []api.Extent{e(5, 1), e(7, 3), e(11, 2)}, []api.Extent{e(7, 2)}},
		{three, []api.Extent{e(37, 3)}, []api.Extent{e(37, 3)}},
		{three, []api.Extent{e(37, 2), e(0, 2)}, nil},
		{all, []api.Extent{e(5, 6)}, []api.Extent{e(5, 2), e(7, 3), e(10, 1)}},
		{all, []api.Extent{e(5, 5)}, nil},
		{all, []api.Extent{e(5, 4), e(10, 2)}, nil},
		{all, []api.Extent{e(5, 2), e(10, 2), e(20, 2)}, nil},
		{all, []api.Extent{e(5, 3), e(10, 3)}, []api.Extent{e(5, 2), e(10, 3), e(7, 1)}},
		{all, []api.Extent{e(5, 1), e(10, 2), e(20, 3)}, []api.Extent{e(10, 2), e(20, 3), e(5, 1)}},
		{all, []api.Extent{e(5, 2), e(20, 3)}, nil},
		{all, []api.Extent{e(5, 1), e(20, 3)}, nil},
		{all, nil, nil},
		{slices.Concat(three, two, one), []api.Extent{e(5, 2), e(20, 3), e(30, 1)}, []api.Extent{e(20, 3), e(5, 2), e(30, 1)}},
	} {
		g := holed(t, 40, x.holes...)
		if x.want == nil {
			g.laysNone(t, x.l, api.Text, api.ErrFull)
			turnedOff(t, g.d)
			g.laysNone(t, x.l, api.Text, api.ErrFull)
			continue
		}
		var got []api.Extent
		for _, ref := range g.lays(t, x.l, api.Text) {
			got = append(got, ref.At)
		}
		if !slices.Equal(got, x.want) {
			t.Errorf("into %v: %v, not %v", x.holes, got, x.want)
		}
	}
}

// Maps with holes by a fixed rule: Lay takes what layer 5's Alloc would, or nothing.
func TestLayIntoHolesOfAllManners(t *testing.T) {
	s := stir(11)
	full, room := 0, 0
	for k := range 200 {
		g := made(t, 60)
		for at := range 60 {
			if s.below(3+k%9) == 0 {
				g.m.Take(api.Extent{First: at, Count: 1})
			}
		}
		for {
			kind := kinds()[s.below(2)]
			l := values(kind, s.below(260), manners()[s.below(6)])
			if _, _, fits := laid(t, g, l, kind); !fits {
				g.laysNone(t, l, kind, api.ErrFull)
				full++
				break
			}
			room++
			was := g.seen()
			refs := g.lays(t, l, kind)
			if s.below(4) == 0 {
				if e := Free(g.m, refs); e != api.OK {
					t.Fatalf("Free(%v): %d", refs, e)
				}
				g.mapStays(t, was, "Lay and Free")
			}
		}
	}
	if full < 100 || room < 100 {
		t.Errorf("%d times no room, %d times some", full, room)
	}
}

// A map of more blocks than the device has: a write is refused, and nothing is left of the others.
func TestLayOntoAShorterDevice(t *testing.T) {
	l := slices.Concat(sized(t, 300), sized(t, 128), sized(t, 200), spaced(api.Text, 3)) // needs 3, 1, 2 and 1 blocks
	for blocks := 1; blocks < 10; blocks++ {
		for taken := range 8 {
			g := unlike(t, blocks, 40)
			g.m.Take(api.Extent{First: 0, Count: taken})
			g.d.Write(0, strings.Repeat("w", size))
			if taken+7 <= blocks {
				g.lays(t, l, api.Text)
				continue
			}
			g.laysNone(t, l, api.Text, api.ErrArg)
			turnedOff(t, g.d)
			if taken < blocks {
				g.laysNone(t, l, api.Text, api.ErrOff)
			} else {
				g.laysNone(t, l, api.Text, api.ErrArg)
			}
		}
	}
	// One of the midst alone is not there.
	g := unlike(t, 10, 40)
	g.m.Take(api.Extent{First: 2, Count: 20})
	g.laysNone(t, slices.Concat(spaced(api.Text, 64)[:0], sized(t, 128), sized(t, 200), sized(t, 128)), api.Text, api.ErrArg)
	// A map of fewer blocks is none the worse.
	unlike(t, 40, 7).lays(t, l, api.Text)
	unlike(t, 40, 6).laysNone(t, l, api.Text, api.ErrFull)
}

// The power goes off at each of the writes, or is off.
func TestLayWithAFuse(t *testing.T) {
	l := slices.Concat(sized(t, 300), sized(t, 128), sized(t, 200), spaced(api.Text, 3)) // needs 7 blocks
	for fuse := range 9 {
		g := made(t, 20)
		g.m.Take(api.Extent{First: 1, Count: 2})
		g.d.Fuse(fuse)
		if fuse >= 7 {
			g.lays(t, l, api.Text)
			continue
		}
		g.laysNone(t, l, api.Text, api.ErrOff)
		if !g.d.Off() || len(g.d.Waiting()) != fuse {
			t.Errorf("a fuse of %d: off %t, %v wait", fuse, g.d.Off(), g.d.Waiting())
		}
		was := g.seen()
		g.laysNone(t, l, api.Text, api.ErrOff)
		g.stays(t, was, "Lay without power")
		// Behind a crash all is as ever.
		g.d.Crash(nil)
		gathers(t, g.holds(t, l, api.Text), l, api.Text, one(t, below(len(l))...))
	}
}

// Without power what is not written is laid none the less.
func TestLayOfNoCellsWithoutPower(t *testing.T) {
	for _, kind := range kinds() {
		g := made(t, 1)
		g.m.Alloc(1)
		turnedOff(t, g.d)
		was := g.seen()
		for _, l := range [][]api.Cell{nil, {}} {
			if refs, e := Lay(g.d, g.m, l, kind); len(refs) != 0 || e != api.OK {
				t.Errorf("Lay of no cells: %v, %d", refs, e)
			}
		}
		g.laysNone(t, []api.Cell{{}}, kind, api.ErrFull)
		g.stays(t, was, "Lay of no cells")
	}
}

func TestLayTwice(t *testing.T) {
	g := made(t, 60)
	first, second := masked(values(api.Int, 150, manners()[5]), masks[1]), spaced(api.Text, 130)
	a := g.holds(t, first, api.Int)
	left := g.m.Left()
	b := g.holds(t, second, api.Text)
	if left <= g.m.Left() {
		t.Errorf("%d blocks are left behind the second, %d ahead of it", g.m.Left(), left)
	}
	c := g.holds(t, first, api.Int)
	gathers(t, a, first, api.Int, one(t, below(150)...))
	gathers(t, b, second, api.Text, one(t, below(130)...))
	gathers(t, c, first, api.Int, one(t, below(150)...))
}

func TestFree(t *testing.T) {
	for _, kind := range kinds() {
		g := holed(t, 90, api.Extent{First: 3, Count: 1}, api.Extent{First: 5, Count: 70})
		was := g.seen()
		kept := g.lays(t, spaced(kind, 65), kind)
		among := g.seen()
		refs := g.lays(t, values(kind, 200, manners()[5]), kind)
		own := slices.Clone(refs)
		if e := Free(g.m, refs); e != api.OK {
			t.Errorf("Free: %d", e)
		}
		g.mapStays(t, among, "Free of the second")
		if !slices.Equal(refs, own) {
			t.Errorf("Free changed refs: %v, not %v", refs, own)
		}
		if e := Free(g.m, refs); e != api.ErrNone {
			t.Errorf("Free, twice: %d", e)
		}
		g.mapStays(t, among, "Free of the second, twice")
		if e := Free(g.m, kept); e != api.OK {
			t.Errorf("Free: %d", e)
		}
		g.mapStays(t, was, "Free of all")
	}
}

func TestFreeOfNone(t *testing.T) {
	g := made(t, 3)
	for _, refs := range [][]api.Ref{nil, {}} {
		if e := Free(g.m, refs); e != api.OK {
			t.Errorf("Free of no refs: %d", e)
		}
		for _, m := range []*extent.Map{nil, {}} {
			if e := Free(m, refs); e != api.ErrArg {
				t.Errorf("Free of no refs without a map: %d", e)
			}
		}
	}
	refs := g.lays(t, spaced(api.Int, 100), api.Int)
	for _, m := range []*extent.Map{nil, {}} {
		if e := Free(m, refs); e != api.ErrArg {
			t.Errorf("Free without a map: %d", e)
		}
	}
}

// What is not taken, or may not be, is told, the first of them, and all others are free.
func TestFreeOfSomeThatAreNot(t *testing.T) {
	ref := func(first, count int) api.Ref { return api.Ref{At: api.Extent{First: first, Count: count}} }
	refused := []struct {
		ref  api.Ref
		want api.Errno
	}{
		{ref(0, 1), api.ErrNone}, {ref(0, 2), api.ErrNone}, {ref(18, 2), api.ErrNone}, {ref(1, 20), api.ErrArg}, {ref(20, 1), api.ErrArg}, {ref(-1, 1), api.ErrArg},
		{ref(5, 0), api.ErrArg}, {ref(5, -1), api.ErrArg}, {ref(great, great), api.ErrArg}, {ref(least, least), api.ErrArg}, {ref(1, great), api.ErrArg}, {ref(0, 20), api.ErrNone},
	}
	good := []api.Ref{ref(2, 3), ref(8, 1), ref(9, 4)}
	holes := []api.Extent{{First: 0, Count: 1}, {First: 2, Count: 3}, {First: 8, Count: 5}, {First: 19, Count: 1}}
	freed := func(refs []api.Ref, want api.Errno) {
		t.Helper()
		g := made(t, 20)
		g.m.Take(api.Extent{First: 1, Count: 18})
		if e := Free(g.m, refs); e != want || !slices.Equal(g.m.Holes(), holes) {
			t.Errorf("Free(%v): %d, not %d; holes %v", refs, e, want, g.m.Holes())
		}
	}
	freed(good, api.OK)
	for _, x := range refused {
		for at := range 4 {
			freed(slices.Insert(slices.Clone(good), at, x.ref), x.want)
		}
		for _, y := range refused {
			for at := range 4 {
				freed(append(slices.Insert(slices.Clone(good), at, x.ref), y.ref), x.want)
				freed(slices.Insert(slices.Clone(good), at, x.ref, y.ref), x.want)
			}
		}
	}
	// One that is there twice is not taken the second time.
	freed(append(slices.Clone(good), good[0]), api.ErrNone)
	freed(append(slices.Clone(good[:1]), good...), api.ErrNone)
}

// Co2

// block of so many bytes and cells, whose extent has as many blocks as they need.
func told(first, bytes, count int) api.Ref {
	return api.Ref{At: api.Extent{First: first, Count: needs(bytes)}, Bytes: bytes, Zone: api.Zone{Min: num(1), Max: num(2), Count: count}}
}

// mayOpen fails if Open does not tell that refs may be, or may not.
func mayOpen(t *testing.T, d *device.Device, refs []api.Ref, may bool) {
	t.Helper()
	own := slices.Clone(refs)
	for _, kind := range kinds() {
		c, e := Open(d, kind, refs)
		if may != (e == api.OK) || may != (c != nil) || !may && e != api.ErrArg {
			t.Fatalf("Open(%v): %t, %d", refs, c != nil, e)
		}
	}
	for _, kind := range noKinds() {
		if c, e := Open(d, kind, refs); c != nil || e != api.ErrArg {
			t.Fatalf("Open of the kind %d: %t, %d", kind, c != nil, e)
		}
	}
	for _, none := range []*device.Device{nil, {}} {
		if c, e := Open(none, api.Int, refs); c != nil || e != api.ErrArg {
			t.Fatalf("Open without a device: %t, %d", c != nil, e)
		}
	}
	if !slices.Equal(refs, own) {
		t.Fatalf("Open changed refs: %v, not %v", refs, own)
	}
}

// One field of a ref of several, each at its edges.
func TestRefsThatMayBe(t *testing.T) {
	d := made(t, 4).d
	mayOpen(t, d, nil, true)
	mayOpen(t, d, []api.Ref{}, true)
	for count := 1; count <= 4; count++ {
		for k := range count {
			isLast := k == count-1
			with := func(change func(ref *api.Ref), may bool) {
				t.Helper()
				refs := []api.Ref{told(0, 100, 64), told(2, 200, 64), told(7, 300, 64), told(1, 9, 64)}[:count]
				change(&refs[k])
				mayOpen(t, d, refs, may)
			}
			with(func(ref *api.Ref) {}, true)
			for _, first := range []int{0, 1, 3, 4, 4096, 1 << 32, great} {
				with(func(ref *api.Ref) { ref.At.First = first }, true)
			}
			for _, first := range []int{-1, -2, -4096, least} {
				with(func(ref *api.Ref) { ref.At.First = first }, false)
			}
			for _, bytes := range []int{1, 2, 127, 128, 129, 256, 257, 1<<14 - 128, 1<<14 - 127, 1<<14 - 1, 1 << 14} {
				for _, more := range []int{-1, 0, 1, 127, 128, -128} {
					with(func(ref *api.Ref) { ref.Bytes, ref.At.Count = bytes, needs(bytes)+more }, more == 0)
				}
				for _, blocks := range []int{least, -1, 0, great} {
					with(func(ref *api.Ref) { ref.Bytes, ref.At.Count = bytes, blocks }, false)
				}
			}
			for _, bytes := range []int{0, -1, -127, -128, -129, least, least + 1, 1<<14 + 1, 1<<14 + 128, 1 << 15, 1 << 32, great} {
				for _, blocks := range []int{0, 1, 2, -1, 127, 128, 129, 256, (bytes-1)/128 + 1, least, great} {
					with(func(ref *api.Ref) { ref.Bytes, ref.At.Count = bytes, blocks }, false)
				}
			}
			for _, cells := range []int{1, 2, 36, 62, 63} {
				with(func(ref *api.Ref) { ref.Zone.Count = cells }, isLast)
			}
			for _, cells := range []int{0, -1, -64, 65, 66, 128, 4096, 1<<32 + 64, least, great} {
				with(func(ref *api.Ref) { ref.Zone.Count = cells }, false)
			}
			// Of the zone nothing but Count is asked.
			for _, z := range []api.Zone{{Count: 64}, {Nulls: 64, Count: 64}, {Nulls: great, Count: 64}, {Nulls: least, Count: 64}, {Min: txt("z"), Max: num(least), Nulls: -1, Count: 64}, {Min: api.Cell{Kind: 9}, Count: 64}} {
				with(func(ref *api.Ref) { ref.Zone = z }, true)
			}
		}
	}
}

func TestAsManyRefsAsMayBe(t *testing.T) {
	d := made(t, 1).d
	all := slices.Repeat([]api.Ref{told(0, 20, 64)}, 66)
	for count := range all {
		mayOpen(t, d, all[:count], count <= 64)
		last := append(slices.Clone(all[:count]), told(9, 129, 1))
		mayOpen(t, d, last, count < 64)
	}
	mayOpen(t, d, slices.Repeat(all[:1], 5000), false)
}

// Open reads nothing, and needs no power.
func TestOpenWithoutPower(t *testing.T) {
	g := made(t, 10)
	refs := g.lays(t, spaced(api.Int, 70), api.Int)
	turnedOff(t, g.d)
	c := g.opens(t, api.Int, refs)
	if c.Count() != 70 || c.Zone() != zoned(spaced(api.Int, 70)) || c.Reads() != 0 {
		t.Errorf("%d, %v, %d", c.Count(), c.Zone(), c.Reads())
	}
}

func TestCountAndZone(t *testing.T) {
	for _, kind := range kinds() {
		for _, count := range []int{0, 1, 2, 63, 64, 65, 128, 129, 192, 200} {
			for _, l := range columns(kind, count) {
				c := made(t, 80).holds(t, l, kind)
				if c.Count() != count || c.Zone() != zoned(l) || c.Reads() != 0 {
					t.Errorf("of %d cells: %d, %v, not %v; %d reads", count, c.Count(), c.Zone(), zoned(l), c.Reads())
				}
			}
		}
	}
	c := made(t, 4).opens(t, api.Int, nil)
	if c.Count() != 0 || c.Zone() != (api.Zone{}) || c.Reads() != 0 {
		t.Errorf("of no refs: %d, %v, %d", c.Count(), c.Zone(), c.Reads())
	}
}

// The zone is that of the refs, whatever lies on the device.
func TestZoneByRefs(t *testing.T) {
	a, b, z := told(0, 9, 64), told(1, 9, 64), told(2, 9, 5)
	a.Zone = api.Zone{Nulls: 64, Count: 64}
	b.Zone = api.Zone{Min: num(-7), Max: num(3), Nulls: 2, Count: 64}
	z.Zone = api.Zone{Min: num(0), Max: num(4), Nulls: 1, Count: 5}
	for _, x := range []struct {
		refs []api.Ref
		want api.Zone
	}{
		{[]api.Ref{a}, a.Zone},
		{[]api.Ref{b}, b.Zone},
		{[]api.Ref{a, b}, api.Zone{Min: num(-7), Max: num(3), Nulls: 66, Count: 128}},
		{[]api.Ref{b, a}, api.Zone{Min: num(-7), Max: num(3), Nulls: 66, Count: 128}},
		{[]api.Ref{a, a}, api.Zone{Nulls: 128, Count: 128}},
		{[]api.Ref{a, z}, api.Zone{Min: num(0), Max: num(4), Nulls: 65, Count: 69}},
		{[]api.Ref{b, z}, api.Zone{Min: num(-7), Max: num(4), Nulls: 3, Count: 69}},
		{[]api.Ref{b, a, z}, api.Zone{Min: num(-7), Max: num(4), Nulls: 67, Count: 133}},
	} {
		c := made(t, 1).opens(t, api.Int, x.refs)
		if c.Zone() != x.want || c.Count() != x.want.Count || c.Reads() != 0 {
			t.Errorf("of %v: %v, %d, not %v", x.refs, c.Zone(), c.Count(), x.want)
		}
	}
}

// Co3

// chosen are places below a count: none, one, the first, the last, all, those of one block, at blocks' borders, of each second block, and others.
func chosen(count int, s *stirrer) [][]int {
	all := [][]int{nil}
	for _, wanted := range []func(at int) bool{
		func(at int) bool { return true },
		func(at int) bool { return at == 0 },
		func(at int) bool { return at == count-1 },
		func(at int) bool { return at == 0 || at == count-1 },
		func(at int) bool { return at == 63 },
		func(at int) bool { return at == 64 },
		func(at int) bool { return at == 63 || at == 64 },
		func(at int) bool { return at/64 == 1 },
		func(at int) bool { return at/64 == count/64 },
		func(at int) bool { return at/64%2 == 0 },
		func(at int) bool { return at/64%2 == 1 },
		func(at int) bool { return at%64 == 0 || at%64 == 63 },
		func(at int) bool { return at%2 == 1 },
		func(at int) bool { return s.below(3) == 0 },
		func(at int) bool { return s.below(40) == 0 },
		func(at int) bool { return s.below(9) > 0 },
	} {
		all = append(all, where(count, wanted))
	}
	slices.SortFunc(all, slices.Compare)
	return slices.CompactFunc(all, slices.Equal)
}

// vals are what cells are held against: the least and the greatest of each block, what is around these, ahead of all, behind all, and of the other kind.
func vals(l []api.Cell, kind int) []api.Cell {
	all := []api.Cell{num(least), num(0), num(great), txt(""), txt("m"), txt(strings.Repeat("\xff", 32))}
	for _, part := range cut(l) {
		for _, c := range []api.Cell{zoned(part).Min, zoned(part).Max} {
			switch c.Kind {
			case api.Int:
				all = append(all, nums(max(c.N, least+1)-1, c.N, min(c.N, great-1)+1)...)
			case api.Text:
				all = append(all, c, txt(c.S[:max(len(c.S), 1)-1]), txt((c.S + "\x00")[:min(len(c.S)+1, 32)]))
			}
		}
	}
	slices.SortFunc(all, order)
	return slices.Compact(all)
}

// Each op with Val ahead of all cells, at a block's least and greatest, between two blocks, behind all and of the other kind; and how many blocks are read.
func TestScan(t *testing.T) {
	for _, kind := range kinds() {
		l := spaced(kind, 150) // three blocks, rising: 0 to 63, 64 to 127, 128 to 149
		c := made(t, 40).holds(t, l, kind)
		upTo := func(n int) []api.Span {
			if n == 0 {
				return nil
			}
			return []api.Span{{Lo: 0, Hi: n}}
		}
		from := func(n int) []api.Span {
			if n == 150 {
				return nil
			}
			return []api.Span{{Lo: n, Hi: 150}}
		}
		// between is a cell that stands just behind the cell k.
		between := func(k int) api.Cell {
			if kind == api.Int {
				return num(l[k].N + 1)
			}
			return txt(l[k].S + "\x00")
		}
		all := one(t, below(150)...)
		for _, x := range []struct {
			op   int
			val  api.Cell
			want []api.Span
			read int
		}{
			{api.TestLt, l[0], nil, 0},
			{api.TestLe, l[0], upTo(1), 1},
			{api.TestGe, l[0], from(0), 0},
			{api.TestGt, l[0], from(1), 1},
			{api.TestEq, l[0], upTo(1), 1},
			{api.TestNe, l[0], from(1), 1},
			{api.TestLt, l[63], upTo(63), 1},
			{api.TestLe, l[63], upTo(64), 0},
			{api.TestGt, l[63], from(64), 0},
			{api.TestGe, l[63], from(63), 1},
			{api.TestEq, l[63], []api.Span{{Lo: 63, Hi: 64}}, 1},
			{api.TestLt, l[64], upTo(64), 0},
			{api.TestLe, l[64], upTo(65), 1},
			{api.TestGt, l[64], from(65), 1},
			{api.TestGe, l[64], from(64), 0},
			{api.TestNe, l[64], []api.Span{{Lo: 0, Hi: 64}, {Lo: 65, Hi: 150}}, 1},
			{api.TestEq, between(63), nil, 0},
			{api.TestNe, between(63), upTo(150), 0},
			{api.TestLt, between(63), upTo(64), 0},
			{api.TestGe, between(63), from(64), 0},
			{api.TestEq, between(70), nil, 1},
			{api.TestNe, between(70), upTo(150), 1},
			{api.TestLe, between(70), upTo(71), 1},
			{api.TestGt, between(70), from(71), 1},
			{api.TestLt, l[149], upTo(149), 1},
			{api.TestLe, l[149], upTo(150), 0},
			{api.TestGt, l[149], nil, 0},
			{api.TestGe, l[149], from(149), 1},
			{api.TestEq, between(149), nil, 0},
			{api.TestLt, between(149), upTo(150), 0},
			{api.TestGt, between(149), nil, 0},
			{api.TestNull, api.Cell{}, nil, 0},
			{api.TestSome, api.Cell{}, upTo(150), 0},
		} {
			was := c.Reads()
			p, e := c.Scan(asked(x.op, x.val), all)
			if !slices.Equal(p.Spans(), x.want) || e != api.OK {
				t.Errorf("Scan(%d, %v): %v, %d, not %v", x.op, x.val, p.Spans(), e, x.want)
			}
			reads(t, c, was, x.read, "Scan")
			scans(t, c, l, asked(x.op, x.val), all)
		}
		for _, val := range []api.Cell{num(least), num(great), txt(""), txt(xs(32))} {
			if val.Kind != kind {
				for _, op := range valued() {
					was := c.Reads()
					scans(t, c, l, asked(op, val), all)
					reads(t, c, was, 0, "Scan by the other kind")
				}
			}
		}
	}
}

// Cells of all manners, tests of all manners, places of all manners and in each form.
func TestScanOfAllManners(t *testing.T) {
	for _, kind := range kinds() {
		s := stir(kind)
		for k, l := range columns(kind, 150) {
			c, all := made(t, 60).holds(t, l, kind), tests(vals(l, kind))
			for n, places := range chosen(150, s) {
				lists := listed(t, places)
				// Each test with some of the lists, each list with some of the tests.
				for m, q := range all {
					if (k+n+m)%5 == 0 {
						scans(t, c, l, q, lists[m%len(lists)])
					}
				}
				for _, list := range lists {
					gathers(t, c, l, kind, list)
				}
			}
		}
		for _, count := range []int{1, 63, 64, 65, 128, 129, 300} {
			for _, isNull := range masks {
				l := masked(s.cells(spaced(kind, 200), count, 9, 3), isNull)
				c, all := made(t, 60).holds(t, l, kind), tests(vals(l, kind))
				for _, places := range chosen(count, s) {
					list := listed(t, places)[s.below(4)]
					for k := s.below(9); k < len(all); k += 9 {
						scans(t, c, l, all[k], list)
					}
					gathers(t, c, l, kind, list)
				}
			}
		}
	}
}

// The forms in which what passes is best.
func TestScanInTheBestForm(t *testing.T) {
	l := make([]api.Cell, 200)
	for k := range l {
		l[k] = num(k % 2)
		if k == 70 || k == 150 {
			l[k] = num(5)
		}
	}
	c := made(t, 40).holds(t, l, api.Int)
	for _, list := range listed(t, below(200)) {
		for _, x := range []struct {
			q    api.Test
			form int
		}{
			{asked(api.TestEq, num(1)), api.FormWords},
			{asked(api.TestEq, num(5)), api.FormPlaces},
			{asked(api.TestNe, num(5)), api.FormSpans},
			{asked(api.TestGe, num(0)), api.FormSpans},
			{asked(api.TestLt, num(0)), api.FormSpans},
		} {
			p, e := c.Scan(x.q, list)
			if p.Form() != x.form || e != api.OK {
				t.Errorf("Scan(%v): in the form %d, not %d; %d", x.q, p.Form(), x.form, e)
			}
			scans(t, c, l, x.q, list)
		}
	}
}

// Places that are just Count, one more, and the greatest; tests that may not be come first; nothing is read.
func TestPlacesThatAreNotThere(t *testing.T) {
	for _, kind := range kinds() {
		for _, count := range []int{0, 1, 63, 64, 65, 128, 150} {
			l := spaced(kind, count)
			c := made(t, 40).holds(t, l, kind)
			q := asked(api.TestNe, spaced(kind, 9)[8])
			for _, places := range [][]int{{count}, {count + 1}, {count + 64}, {bound - 1}, {0, count}, below(count + 1), append(below(count), bound-1), {count, bound - 1}, below(bound)} {
				for _, list := range listed(t, places) {
					for _, q := range []api.Test{q, isNone, isSome} {
						scansNone(t, c, q, list, api.ErrNone)
					}
					scansNone(t, c, noTests()[len(places)%len(noTests())], list, api.ErrArg)
					gathersNone(t, c, list, api.ErrNone)
					sumsNone(t, c, list, api.ErrNone)
				}
			}
			reads(t, c, 0, 0, "calls that were refused")
			if count > 0 {
				scans(t, c, l, q, one(t, count-1))
				gathers(t, c, l, kind, one(t, count-1))
			}
		}
	}
}

func TestScanByTestsThatMayNotBe(t *testing.T) {
	for _, kind := range kinds() {
		g := made(t, 40)
		c := g.holds(t, spaced(kind, 100), kind)
		spoiled := g.holds(t, spaced(kind, 100), kind)
		g.d.Spoil(spoiled.refs[0].At.First, xs(128))
		empty := g.opens(t, kind, nil)
		for _, q := range noTests() {
			for _, places := range [][]int{nil, {0}, {99}, below(100), {100}, {bound - 1}} {
				for _, list := range listed(t, places) {
					for _, c := range []*Column{c, spoiled, empty} {
						scansNone(t, c, q, list, api.ErrArg)
						reads(t, c, 0, 0, "Scan, refused")
					}
				}
			}
		}
	}
}

// Blocks of which zones tell none, all, or neither; blocks in which no place is; each is read once a call, and again by the next one.
func TestReads(t *testing.T) {
	g := made(t, 40)
	l := slices.Concat(slices.Repeat(nums(5), 64), slices.Repeat(nums(1, 5), 32), make([]api.Cell, 64), slices.Repeat(nums(9), 63), []api.Cell{{}}, nums(5, 6, 7))
	c := g.holds(t, l, api.Int)
	all := below(len(l)) // blocks: 5 alone; 1 and 5; nulls alone; 9 and a null; 5 to 7
	total := 0
	ask := func(want int, call func()) {
		t.Helper()
		call()
		total += want
		if c.Reads() != total {
			t.Fatalf("Reads: %d, not %d", c.Reads(), total)
		}
	}
	scan := func(q api.Test, places []int, want int) {
		t.Helper()
		ask(want, func() { scans(t, c, l, q, one(t, places...)) })
	}
	ask(0, func() {})
	for range 2 {
		scan(asked(api.TestEq, num(5)), all, 2)
		scan(asked(api.TestNe, num(5)), all, 3)
		scan(asked(api.TestEq, num(9)), all, 1)
		scan(asked(api.TestGe, num(5)), all, 2)
		scan(asked(api.TestLt, num(5)), all, 1)
		scan(asked(api.TestGt, num(9)), all, 0)
		scan(asked(api.TestLe, num(9)), all, 1)
		scan(isNone, all, 1)
		scan(isSome, all, 1)
		scan(asked(api.TestEq, num(5)), nil, 0)
		scan(asked(api.TestEq, num(5)), below(64), 0)
		scan(asked(api.TestEq, num(5)), []int{64}, 1)
		scan(asked(api.TestEq, num(5)), []int{63, 64, 127, 128}, 1)
		scan(asked(api.TestEq, num(5)), []int{0, 200, 256}, 1)
		scan(asked(api.TestEq, num(5)), []int{0, 130, 200}, 0)
		ask(0, func() { c.Gather(poslist.List{}) })
		ask(5, func() { c.Gather(one(t, all...)) })
		ask(1, func() { c.Gather(one(t, 70)) })
		ask(1, func() { c.Gather(one(t, below(64)...)) })
		ask(2, func() { c.Gather(one(t, 63, 64)) })
		ask(2, func() { c.Gather(one(t, 130, 258)) })
		ask(0, func() { c.Sum(poslist.List{}) })
		ask(5, func() { c.Sum(one(t, all...)) })
		ask(1, func() { c.Sum(one(t, 127)) })
		ask(1, func() { c.Sum(one(t, 128)) })
		ask(2, func() { c.Sum(one(t, 127, 128)) })
		ask(0, func() { c.Gather(one(t, 0, len(l))) })
		ask(0, func() { c.Sum(one(t, 0, len(l))) })
		ask(0, func() { c.Scan(isSome, one(t, 0, len(l))) })
		ask(0, func() { c.Scan(api.Test{}, one(t, 0)) })
		ask(0, func() { c.Count(); c.Zone(); c.Reads() })
	}
	// A block that has more than one of the device's is one.
	long := g.holds(t, sized(t, 500), api.Text)
	if _, e := long.Gather(one(t, below(64)...)); long.Reads() != 1 || e != api.OK {
		t.Errorf("Reads of a long block: %d, %d", long.Reads(), e)
	}
	// Another column of the same refs counts for itself.
	if again := g.opens(t, api.Int, c.refs); again.Reads() != 0 {
		t.Errorf("Reads of another column: %d", again.Reads())
	}
}

func TestGatherAndSum(t *testing.T) {
	g := made(t, 60)
	var l, words []api.Cell
	for k := range 150 {
		l, words = append(l, num(k-75)), append(words, txt(text(k)))
	}
	l[64], words[64] = api.Cell{}, api.Cell{}
	numbers, texts := g.holds(t, l, api.Int), g.holds(t, words, api.Text)
	for _, x := range []struct {
		places []int
		want   []api.Cell
		hi, lo int
	}{
		{nil, nil, 0, 0},
		{[]int{0}, nums(-75), -1, 1<<32 - 75},
		{[]int{149}, nums(74), 0, 74},
		{[]int{64}, []api.Cell{{}}, 0, 0},
		{[]int{63, 64, 65}, []api.Cell{num(-12), {}, num(-10)}, -1, 1<<32 - 22},
		{[]int{63, 149}, nums(-12, 74), 0, 62},
		{[]int{1, 149}, nums(-74, 74), 0, 0},
		{[]int{149, 1, 149, 70, 1}, nums(-74, -5, 74), -1, 1<<32 - 5},
	} {
		for _, list := range listed(t, x.places) {
			if got, e := numbers.Gather(list); !slices.Equal(got, x.want) || e != api.OK {
				t.Errorf("Gather(%v): %v, %d, not %v", x.places, got, e, x.want)
			}
			if hi, lo, e := numbers.Sum(list); hi != x.hi || lo != x.lo || e != api.OK {
				t.Errorf("Sum(%v): %d, %d, %d, not %d, %d", x.places, hi, lo, e, x.hi, x.lo)
			}
			gathers(t, texts, words, api.Text, list)
		}
	}
}

// Sums of texts are none, also of no places and of nulls alone; a place too many is told first.
func TestSumOfTexts(t *testing.T) {
	for _, l := range [][]api.Cell{nil, txts("7"), make([]api.Cell, 70), spaced(api.Text, 130)} {
		c := made(t, 40).holds(t, l, api.Text)
		for _, list := range listed(t, nil) {
			sumsNone(t, c, list, api.ErrArg)
		}
		for _, list := range listed(t, below(len(l))) {
			sumsNone(t, c, list, api.ErrArg)
		}
		for _, places := range [][]int{{len(l)}, {0, len(l)}, {bound - 1}} {
			for _, list := range listed(t, places) {
				sumsNone(t, c, list, api.ErrNone)
			}
		}
		if c.Reads() != 0 {
			t.Errorf("Sum of texts reads %d blocks", c.Reads())
		}
	}
}

// Sums that an int does not hold, and parts whose lo together are 2^32 and more.
func TestSumsAtEdges(t *testing.T) {
	const full = 1 << 32
	each := func(count int, l ...int) []api.Cell { return slices.Repeat(nums(l...), count) }
	for _, x := range []struct {
		l      []api.Cell
		hi, lo int
	}{
		{each(rows, great), 2048*full - 1, full - 4096},
		{each(rows, least), -2048 * full, 0},
		{each(rows/2, great, least), -1, full - 2048},
		{each(rows, -1), -1, full - 4096},
		{each(rows, full-1), 4095, full - 4096},
		{each(rows, full/4096), 1, 0},
		{each(rows, -full/4096), -1, 0},
		{slices.Concat(each(64, 0), nums(full-1)), 0, full - 1},
		{slices.Concat(each(63, 0), nums(full-1, 1)), 1, 0},
		{slices.Concat(each(63, 0), nums(full/2, full/2)), 1, 0},
		{slices.Concat(each(63, 0), nums(full/2, full/2-1)), 0, full - 1},
		{slices.Concat(each(63, 0), nums(full-1, full-1)), 1, full - 2},
		{slices.Concat(each(63, 0), nums(-1, 1)), 0, 0},
		{slices.Concat(each(63, 0), nums(1, -1)), 0, 0},
		{slices.Concat(each(63, 0), nums(-1, -1)), -1, full - 2},
		{slices.Concat(each(64, full-1), each(64, full-1), each(64, full-1)), 191, full - 192},
		{slices.Concat(each(63, 0), nums(great, 1)), full / 2, 0},
		{slices.Concat(each(63, 0), nums(least, -1)), -full/2 - 1, full - 1},
		{make([]api.Cell, 200), 0, 0},
		{slices.Concat(make([]api.Cell, 64), nums(-3)), -1, full - 3},
	} {
		c := made(t, 80).holds(t, x.l, api.Int)
		for _, list := range listed(t, below(len(x.l))) {
			if hi, lo, e := c.Sum(list); hi != x.hi || lo != x.lo || e != api.OK {
				t.Errorf("Sum of %v..: %d, %d, %d, not %d, %d", x.l[len(x.l)-2:], hi, lo, e, x.hi, x.lo)
			}
			gathers(t, c, x.l, api.Int, list)
		}
	}
}

// Blocks that are not as they were laid

// spoil turns a block's bytes, behind all backs, noughts behind them.
func (g ground) spoil(t *testing.T, at api.Extent, s string) {
	t.Helper()
	s += strings.Repeat("\x00", at.Count*size)
	for n := range at.Count {
		if e := g.d.Spoil(at.First+n, s[n*size:][:size]); e != api.OK {
			t.Fatalf("Spoil(%d): %d", at.First+n, e)
		}
	}
}

// broken fails if a column whose block k is not as it was tells it not where it reads it, or tells it where it does not.
func broken(t *testing.T, g ground, l []api.Cell, kind int, refs []api.Ref, k int, want api.Errno) {
	t.Helper()
	c := g.opens(t, kind, refs)
	inIt := one(t, where(len(l), func(at int) bool { return at/most == k })...)
	some, _ := inIt.Pick(inIt.Count() / 2)
	others := one(t, where(len(l), func(at int) bool { return at/most != k })...)
	all := one(t, below(len(l))...)
	for _, list := range []poslist.List{inIt, one(t, some), all} {
		gathersNone(t, c, list, want)
		if kind == api.Int {
			sumsNone(t, c, list, want)
		} else {
			sumsNone(t, c, list, api.ErrArg)
		}
	}
	gathers(t, c, l, kind, others)
	for _, q := range tests(vals(l, kind)) {
		for _, list := range []poslist.List{inIt, one(t, some), all} {
			if len(unsure(q, l, []int{k})) > 0 {
				scansNone(t, c, q, list, want)
			} else {
				scans(t, c, l, q, list)
			}
		}
		scans(t, c, l, q, others)
		scans(t, c, l, q, poslist.List{})
	}
}

// mixed are three blocks of a kind, none of which zones tell everything of.
func mixed(kind int) []api.Cell {
	s := stir(60 + kind)
	return slices.Concat(s.cells(spaced(kind, 90)[:40], 64, 9, 1), s.cells(spaced(kind, 90)[30:70], 64, 1<<30, 2), s.cells(spaced(kind, 90)[60:], 22, 5, 1))
}

func TestSpoiledBlocks(t *testing.T) {
	for _, kind := range kinds() {
		l := mixed(kind)
		for k := range 3 {
			part, other, ahead := cut(l)[k], kinds()[2-kind], []api.Cell{num(-5000), txt("a")}[kind-1]
			var turned []string
			for _, x := range []struct {
				l    []api.Cell
				kind int
			}{
				{mixed(other)[:len(part)], other},
				{make([]api.Cell, len(part)), kind},
				{make([]api.Cell, len(part)), other},
				{append(slices.Clone(part[:len(part)-1]), spaced(kind, 200)[199]), kind},
				{append(slices.Clone(part[:len(part)-1]), ahead), kind},
				{part[:len(part)-1], kind},
				{part[1:], kind},
				{part[:1], kind},
			} {
				turned = append(turned, best(t, x.l, x.kind)[0])
			}
			if len(part) < most {
				turned = append(turned, best(t, append(slices.Clone(part), part[0]), kind)[0])
			}
			for _, s := range append(turned, "", "x", xs(128), xs(1000)) {
				g := made(t, 60)
				refs := g.lays(t, l, kind)
				// A ref of the bytes that lie there: not by how many they are is it told that they are others.
				if len(s) > 0 && needs(len(s)) <= refs[k].At.Count {
					refs[k].Bytes, refs[k].At.Count = len(s), needs(len(s))
				}
				g.spoil(t, refs[k].At, s)
				broken(t, g, l, kind, refs, k, api.ErrCorrupt)
			}
		}
	}
}

// Each bit of a block, and of the noughts behind it.
func TestTurnedBits(t *testing.T) {
	for _, kind := range kinds() {
		for _, l := range [][]api.Cell{mixed(kind)[:70], make([]api.Cell, 3), spaced(kind, 1)} {
			g := made(t, 60)
			refs := g.lays(t, l, kind)
			c := g.opens(t, kind, refs)
			for _, ref := range refs {
				first := one(t, slices.Index(refs, ref)*most)
				for n := range ref.At.Count {
					at := ref.At.First + n
					was, _ := g.d.Read(at)
					for bit := range 8 * size {
						s := []byte(was)
						s[bit/8] ^= 1 << (bit % 8)
						g.d.Spoil(at, string(s))
						gathersNone(t, c, first, api.ErrCorrupt)
					}
					g.d.Spoil(at, was)
				}
			}
			gathers(t, c, l, kind, one(t, below(len(l))...))
		}
	}
}

// A ref that tells another zone, another kind, or other bytes than lie there.
func TestRefsOfOtherBlocks(t *testing.T) {
	for _, kind := range kinds() {
		l := mixed(kind)
		g := made(t, 60)
		refs := g.lays(t, l, kind)
		all := one(t, below(len(l))...)
		for k := range refs {
			with := func(change func(ref *api.Ref)) {
				t.Helper()
				own := slices.Clone(refs)
				change(&own[k])
				c, e := Open(g.d, kind, own)
				if e != api.OK {
					t.Fatalf("Open(%v): %d", own, e)
				}
				gathersNone(t, c, one(t, k*most), api.ErrCorrupt)
				if k < len(refs)-1 {
					gathersNone(t, c, all, api.ErrCorrupt)
				}
			}
			with(func(ref *api.Ref) { ref.Zone.Nulls++ })
			with(func(ref *api.Ref) { ref.Zone.Nulls-- })
			with(func(ref *api.Ref) { ref.Zone.Min = spaced(kind, 200)[199] })
			with(func(ref *api.Ref) { ref.Zone.Min = api.Cell{} })
			with(func(ref *api.Ref) { ref.Zone.Max = spaced(kind, 200)[198] })
			with(func(ref *api.Ref) { ref.Zone.Max = ref.Zone.Min })
			with(func(ref *api.Ref) { ref.Zone.Min.Kind = 3 - kind })
			with(func(ref *api.Ref) { ref.Zone = api.Zone{Nulls: ref.Zone.Count, Count: ref.Zone.Count} })
			with(func(ref *api.Ref) { *ref = api.Ref{At: refs[(k+1)%3].At, Bytes: refs[(k+1)%3].Bytes, Zone: ref.Zone} })
			with(func(ref *api.Ref) { ref.At.First = 50 })
			with(func(ref *api.Ref) { ref.Bytes = ref.Bytes - 1; ref.At.Count = needs(ref.Bytes) })
			with(func(ref *api.Ref) { ref.Bytes = ref.Bytes + 1; ref.At.Count = needs(ref.Bytes) })
			with(func(ref *api.Ref) { ref.Bytes = 1; ref.At.Count = 1 })
			if k == len(refs)-1 {
				with(func(ref *api.Ref) { ref.Zone.Count-- })
				with(func(ref *api.Ref) { ref.Zone.Count++ })
				with(func(ref *api.Ref) { ref.Zone.Count = 1 })
				with(func(ref *api.Ref) { ref.Zone.Count = 64 })
			}
		}
		other := g.opens(t, kinds()[2-kind], refs)
		gathersNone(t, other, all, api.ErrCorrupt)
		gathersNone(t, other, one(t, 149), api.ErrCorrupt)
		gathers(t, other, nil, kinds()[2-kind], poslist.List{})
	}
	// Nulls alone are of a kind, too.
	g := made(t, 4)
	refs := g.lays(t, make([]api.Cell, 5), api.Int)
	gathersNone(t, g.opens(t, api.Text, refs), one(t, 0), api.ErrCorrupt)
	gathers(t, g.opens(t, api.Int, refs), make([]api.Cell, 5), api.Int, one(t, below(5)...))
}

// A block that is the right one by another code, with noughts behind: the cells are what the ref tells.
func TestBlocksByAnotherCode(t *testing.T) {
	l := slices.Repeat(nums(7, 9), 32)
	for code := api.CodePlain; code <= api.CodePack; code++ {
		s, e := block.Put(l, api.Int, code)
		if e != api.OK {
			t.Fatal(e)
		}
		g := made(t, 9)
		at, _ := g.m.Alloc(needs(len(s)))
		g.spoil(t, at, s)
		c := g.opens(t, api.Int, []api.Ref{{At: at, Bytes: len(s), Zone: zoned(l)}})
		gathers(t, c, l, api.Int, one(t, below(64)...))
		scans(t, c, l, asked(api.TestEq, num(9)), one(t, below(64)...))
	}
}

// Blocks that the device does not have are none.
func TestRefsBesideTheDevice(t *testing.T) {
	l := spaced(api.Int, 70)
	g := made(t, 10)
	refs := g.lays(t, l, api.Int)
	for _, first := range []int{10, 11, 4096, 1 << 32, great - 1, great} {
		own := slices.Clone(refs)
		own[1].At.First = first
		c := g.opens(t, api.Int, own)
		for _, list := range []poslist.List{one(t, 64), one(t, below(70)...)} {
			gathersNone(t, c, list, api.ErrCorrupt)
			sumsNone(t, c, list, api.ErrCorrupt)
			scansNone(t, c, asked(api.TestEq, l[66]), list, api.ErrCorrupt)
		}
		gathers(t, c, l, api.Int, one(t, below(64)...))
		scans(t, c, l, asked(api.TestEq, l[6]), one(t, below(70)...))
		scans(t, c, l, asked(api.TestGe, l[64]), one(t, below(70)...))
	}
	// The last of its blocks alone is not there, or an int does not hold it.
	for _, first := range []int{9, great} {
		ref := told(first, 200, 1)
		gathersNone(t, g.opens(t, api.Int, []api.Ref{ref}), one(t, 0), api.ErrCorrupt)
	}
}

// The power is off, ahead of Open and behind it: told where a block is read, and there alone.
func TestWithoutPower(t *testing.T) {
	for _, kind := range kinds() {
		l := mixed(kind)
		g := made(t, 60)
		refs := g.lays(t, l, kind)
		g.d.Sync()
		ahead := g.opens(t, kind, refs)
		gathers(t, ahead, l, kind, one(t, below(len(l))...))
		was := ahead.Reads()
		turnedOff(t, g.d)
		for _, c := range []*Column{ahead, g.opens(t, kind, refs)} {
			for _, places := range chosen(len(l), stir(3)) {
				list := one(t, places...)
				for _, q := range tests(vals(l, kind)) {
					if len(unsure(q, l, touched(places))) > 0 {
						scansNone(t, c, q, list, api.ErrOff)
					} else {
						scans(t, c, l, q, list)
					}
				}
				if len(places) == 0 {
					gathers(t, c, l, kind, list)
					continue
				}
				gathersNone(t, c, list, api.ErrOff)
				if kind == api.Int {
					sumsNone(t, c, list, api.ErrOff)
				} else {
					sumsNone(t, c, list, api.ErrArg)
				}
			}
			scansNone(t, c, api.Test{}, one(t, 0), api.ErrArg)
			scansNone(t, c, isSome, one(t, len(l)), api.ErrNone)
			gathersNone(t, c, one(t, len(l)), api.ErrNone)
			sumsNone(t, c, one(t, 0, len(l)), api.ErrNone)
			if c.Count() != len(l) || c.Zone() != zoned(l) {
				t.Errorf("without power: %d, %v", c.Count(), c.Zone())
			}
		}
		// No block was read.
		if ahead.Reads() != was {
			t.Errorf("Reads without power: %d, not %d", ahead.Reads(), was)
		}
		g.d.Crash(nil)
		gathers(t, ahead, l, kind, one(t, below(len(l))...))
	}
}

// Co4

// Columns of which each block is by a code, for each code, are read as they were.
func TestEachCodeIsReadAsItWas(t *testing.T) {
	for _, kind := range kinds() {
		var codes []int
		for _, count := range []int{64, 130, 200} {
			for _, l := range columns(kind, count) {
				for _, s := range best(t, l, kind) {
					head, _ := block.Look(s)
					codes = append(codes, head.Code)
				}
				c := made(t, 80).holds(t, l, kind)
				for k := range l {
					if got, e := c.Gather(one(t, k)); len(got) != 1 || got[0] != l[k] || e != api.OK {
						t.Fatalf("the cell %d: %v, %d, not %v", k, got, e, l[k])
					}
				}
				gathers(t, c, l, kind, one(t, below(count)...))
			}
		}
		slices.Sort(codes)
		want := []int{api.CodePlain, api.CodeRuns, api.CodeFrame, api.CodeDict, api.CodePack}
		if kind == api.Text {
			want = []int{api.CodePlain, api.CodeRuns, api.CodeDict}
		}
		if codes = slices.Compact(codes); !slices.Equal(codes, want) {
			t.Errorf("the codes of kind %d: %v", kind, codes)
		}
	}
}

// Of what a scan passes over none passes, and all others are gathered as cells that do, of great columns, too.
func TestScannedCellsPass(t *testing.T) {
	for _, kind := range kinds() {
		s := stir(80 + kind)
		for k := range 8 {
			l := s.cells(spaced(kind, 4000)[k*300:][:1+k*99], rows-k*17, 2+k*40, 1+k*7)
			if k%2 == 0 {
				slices.SortFunc(l, order)
			}
			c := made(t, 1400).holds(t, l, kind)
			all := one(t, below(len(l))...)
			for range 2 {
				for _, q := range tests([]api.Cell{l[s.below(len(l))], spaced(kind, 4000)[s.below(4000)]}) {
					if q.Val.Kind == api.Null && q.Op < api.TestNull {
						continue
					}
					scans(t, c, l, q, all)
					list, _ := c.Scan(q, all)
					gathered, e := c.Gather(list)
					if len(gathered) != list.Count() || slices.ContainsFunc(gathered, func(c api.Cell) bool { return !passes(q, c) }) || e != api.OK {
						t.Fatalf("Gather of Scan by %v: %v, %d", q, gathered, e)
					}
				}
			}
		}
	}
}

// R1 to R4

// A column that is nil, and one that Open did not give.
func TestColumnsThatOpenDidNotGive(t *testing.T) {
	for _, c := range []*Column{nil, {}, new(Column)} {
		if c.Count() != 0 || c.Zone() != (api.Zone{}) || c.Reads() != 0 {
			t.Errorf("%d, %v, %d", c.Count(), c.Zone(), c.Reads())
		}
		for _, places := range [][]int{nil, {0}, {64}, below(100), {bound - 1}} {
			for _, list := range listed(t, places) {
				for _, q := range append(tests([]api.Cell{num(7), txt("a")}), noTests()...) {
					scansNone(t, c, q, list, api.ErrArg)
				}
				gathersNone(t, c, list, api.ErrArg)
				sumsNone(t, c, list, api.ErrArg)
			}
		}
		if c.Count() != 0 || c.Reads() != 0 {
			t.Errorf("behind calls: %d, %d", c.Count(), c.Reads())
		}
	}
	for _, d := range []*device.Device{nil, {}} {
		c, _ := Open(d, api.Int, nil)
		gathersNone(t, c, poslist.List{}, api.ErrArg)
	}
}

// What is handed in stays as it was, also the room behind it.
func TestArgumentsStay(t *testing.T) {
	for _, kind := range kinds() {
		room := mixed(kind)
		own := slices.Clone(room)
		g := made(t, 60)
		refs, e := Lay(g.d, g.m, room[:100], kind)
		if !slices.Equal(room, own) || e != api.OK {
			t.Fatalf("Lay changed cells; %d", e)
		}
		odd := append(slices.Clone(room[:70]), api.Cell{Kind: 9}, api.Cell{Kind: 9})
		if _, e := Lay(g.d, g.m, odd[:70], kind); e != api.OK {
			t.Fatalf("Lay read beyond the end: %d", e)
		}
		roomOfRefs := append(slices.Clone(refs), api.Ref{}, api.Ref{At: api.Extent{First: -1}})
		ownRefs := slices.Clone(roomOfRefs)
		c := g.opens(t, kind, roomOfRefs[:2])
		lists := listed(t, []int{3, 63, 64, 65, 66, 99})
		for _, l := range lists {
			form, spans := l.Form(), l.Spans()
			for range 2 {
				scans(t, c, own, asked(api.TestNe, spaced(kind, 90)[35]), l)
				gathers(t, c, own, kind, l)
			}
			if l.Form() != form || !slices.Equal(l.Spans(), spans) {
				t.Errorf("a list changed: %v, not %v", l, spans)
			}
		}
		if e := Free(g.m, roomOfRefs[:2]); e != api.OK || !slices.Equal(roomOfRefs, ownRefs) {
			t.Errorf("Free: %d; %v, not %v", e, roomOfRefs, ownRefs)
		}
	}
}

// A column stays as it was when the refs that it was opened with are changed, and the cells that it was laid of.
func TestColumnsStay(t *testing.T) {
	for _, kind := range kinds() {
		l := mixed(kind)
		own := slices.Clone(l)
		g := made(t, 60)
		refs := g.lays(t, l, kind)
		c, again := g.opens(t, kind, refs), g.opens(t, kind, slices.Clone(refs))
		for k := range refs {
			refs[k] = api.Ref{At: api.Extent{First: 9, Count: 1}, Bytes: 3, Zone: api.Zone{Count: 1}}
		}
		_ = append(refs[:0], told(0, 1, 1))
		for k := range l {
			l[k] = api.Cell{}
		}
		for _, c := range []*Column{c, again} {
			if c.Count() != len(own) || c.Zone() != zoned(own) {
				t.Errorf("%d, %v", c.Count(), c.Zone())
			}
			gathers(t, c, own, kind, one(t, below(len(own))...))
			scans(t, c, own, asked(api.TestLt, spaced(kind, 90)[45]), one(t, below(len(own))...))
		}
	}
}

// What was answered is new memory, and stays as it was when more is asked.
func TestAnswersStay(t *testing.T) {
	for _, kind := range kinds() {
		l := mixed(kind)
		g := made(t, 90)
		first := g.lays(t, l, kind)
		kept := slices.Clone(first)
		second := g.lays(t, l, kind)
		if !slices.Equal(first, kept) {
			t.Errorf("refs changed: %v, not %v", first, kept)
		}
		for k := range second {
			second[k] = api.Ref{}
		}
		c := g.opens(t, kind, first)
		all := one(t, below(len(l))...)
		q := asked(api.TestGe, spaced(kind, 90)[45])
		list, _ := c.Scan(q, all)
		spans := list.Spans()
		cells, _ := c.Gather(all)
		more, _ := c.Gather(all)
		for k := range more {
			more[k] = api.Cell{Kind: 9}
		}
		_ = append(more, num(1))
		c.Scan(asked(api.TestLt, q.Val), all)
		gathers(t, c, l, kind, all)
		if !slices.Equal(cells, l) || !slices.Equal(list.Spans(), spans) {
			t.Errorf("what was answered changed")
		}
		scans(t, c, l, q, all)
	}
}

// Calls that are refused change nothing: the next ones answer as if these had not been.
func TestRefusedCallsChangeNothing(t *testing.T) {
	l := mixed(api.Int)
	g := made(t, 60)
	c := g.holds(t, l, api.Int)
	was := g.seen()
	all := one(t, below(len(l))...)
	for range 3 {
		scansNone(t, c, api.Test{Op: 9}, all, api.ErrArg)
		scansNone(t, c, isSome, one(t, len(l)), api.ErrNone)
		gathersNone(t, c, one(t, len(l)), api.ErrNone)
		sumsNone(t, c, one(t, bound-1), api.ErrNone)
		g.laysNone(t, []api.Cell{{Kind: 9}}, api.Int, api.ErrArg)
		if c, e := Open(g.d, 3, c.refs); c != nil || e != api.ErrArg {
			t.Errorf("Open of no kind: %d", e)
		}
		if c.Count() != len(l) || c.Zone() != zoned(l) || c.Reads() != 0 {
			t.Errorf("%d, %v, %d", c.Count(), c.Zone(), c.Reads())
		}
		g.stays(t, was, "calls that were refused")
	}
	gathers(t, c, l, api.Int, all)
	scans(t, c, l, asked(api.TestGe, spaced(api.Int, 90)[45]), all)
}

// Reading changes nothing of the device.
func TestReadingChangesNothing(t *testing.T) {
	l := mixed(api.Text)
	g := made(t, 60)
	c := g.holds(t, l, api.Text)
	was := g.seen()
	g.d.Fuse(0)
	for range 3 {
		gathers(t, c, l, api.Text, one(t, below(len(l))...))
		scans(t, c, l, asked(api.TestGe, spaced(api.Text, 90)[45]), one(t, below(len(l))...))
	}
	g.stays(t, was, "reading")
}

// A block that is found to be none was read, and so were those ahead of it.
func TestReadsOfSpoiledBlocks(t *testing.T) {
	l := mixed(api.Int)
	g := made(t, 60)
	refs := g.lays(t, l, api.Int)
	g.spoil(t, refs[1].At, xs(9))
	c := g.opens(t, api.Int, refs)
	gathersNone(t, c, one(t, 64), api.ErrCorrupt)
	reads(t, c, 0, 1, "Gather of a spoiled block")
	sumsNone(t, c, one(t, 0, 64), api.ErrCorrupt)
	reads(t, c, 1, 2, "Sum of a block, and of a spoiled one")
	// One that the device does not let be read was not.
	refs[1].At.First = 60
	c = g.opens(t, api.Int, refs)
	gathersNone(t, c, one(t, 64), api.ErrCorrupt)
	reads(t, c, 0, 0, "Gather of a block that the device does not have")
}
