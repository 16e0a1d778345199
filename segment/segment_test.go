package segment

import (
	"peristyle/api"
	"peristyle/column"
	"peristyle/device"
	"peristyle/extent"
	"peristyle/poslist"
	"slices"
	"strings"
	"testing"
)

// kindsOf are so many, Int and Text in turns, from one of them on.
func kindsOf(count, from int) []int {
	l := make([]int, count)
	for k := range l {
		l[k] = 1 + (k+from)%2
	}
	return l
}

// mixes are some kinds of columns, few and many.
func mixes() [][]int {
	return [][]int{{api.Int}, {api.Text}, {api.Int, api.Text}, {api.Text, api.Int, api.Int}, {api.Int, api.Int, api.Text, api.Text}, kindsOf(16, 0)}
}

// Se1

// The chapter's example.
func TestExample(t *testing.T) {
	rows := []api.Row{{num(3), txt("b")}, {num(1), txt("a")}, {num(3), txt("a")}}
	if got := Order(rows, 2); !slices.Equal(got, []int{1, 2, 0}) {
		t.Errorf("Order: %v", got)
	}
	r := made(t, 9).holds(t, rows, []int{api.Int, api.Text}, 2)
	got, e := r.Rows([]int{0, 1}, one(t, 0, 1, 2))
	if !same(got, []api.Row{{num(1), txt("a")}, {num(3), txt("a")}, {num(3), txt("b")}}) || e != api.OK {
		t.Errorf("Rows: %v, %d", got, e)
	}
	if span, e := r.Seek(nums(3)); span != (api.Span{Lo: 1, Hi: 3}) || e != api.OK {
		t.Errorf("Seek 3: %v, %d", span, e)
	}
}

func TestOrder(t *testing.T) {
	rows := []api.Row{nums(3, 1), nums(1, 2), nums(3, 0), nums(1, 2), nums(2, 9)}
	for _, x := range []struct {
		keys int
		want []int
	}{
		{least, nil},
		{-2, nil},
		{-1, nil},
		{0, []int{0, 1, 2, 3, 4}},
		{1, []int{1, 3, 4, 0, 2}},
		{2, []int{1, 3, 4, 2, 0}},
		{3, []int{1, 3, 4, 2, 0}},
		{great, []int{1, 3, 4, 2, 0}},
	} {
		if got := Order(rows, x.keys); !slices.Equal(got, x.want) {
			t.Errorf("Order by %d: %v, not %v", x.keys, got, x.want)
		}
	}
	cells := []api.Cell{txt("b"), num(great), {}, txt(""), num(least), num(0), txt("a"), txt("ab"), num(-1), {}}
	var odd []api.Row
	for _, c := range cells {
		odd = append(odd, api.Row{c})
	}
	if got := Order(odd, 1); !slices.Equal(got, []int{2, 9, 4, 8, 5, 1, 3, 6, 7, 0}) {
		t.Errorf("Order of cells of all kinds: %v", got)
	}
}

// By fewer columns than none no row has a number; by none all have theirs, as they came.
func TestOrderByNoColumns(t *testing.T) {
	manners := [][]api.Row{
		nil, {}, {nil}, {{}}, {{{}}}, {nums(7)}, {nums(3), nums(1), nums(2)}, {nums(1), nil, {}, {txt("a"), {}}, nums(0, 5)},
		make([]api.Row, 65), stir(9).rows([]int{api.Int, api.Text}, 300, 9), stir(11).rows([]int{api.Text}, limit+1, 900),
	}
	for _, rows := range manners {
		for _, keys := range []int{-1, -2, -1 << 32, least + 1, least} {
			if got := Order(rows, keys); len(got) != 0 {
				t.Errorf("Order of %d rows by %d: %d numbers", len(rows), keys, len(got))
			}
		}
		if got := Order(rows, 0); !slices.Equal(got, below(len(rows))) {
			t.Errorf("Order of %d rows by 0: %v", len(rows), got)
		}
	}
}

// Rows of all manners, by columns from fewer than none to more than there are.
func TestOrderOfAllManners(t *testing.T) {
	keys := []int{least, -2, -1, 0, 1, 2, 3, 4, 5, 17, 1 << 32, great}
	s := stir(5)
	cells := append(oddCells(), api.Cell{}, num(least), num(great), num(0), num(1), txt(""), txt("a"), txt("b"))
	for _, count := range []int{0, 1, 2, 3, 10, 64, 65, 300} {
		for _, k := range keys {
			for _, many := range []int{1, 2, 9} {
				orders(t, s.rows([]int{api.Int, api.Text, api.Int}, count, many), k)
			}
			// Of unlike lengths, some without cells, with cells that may not be.
			rows := make([]api.Row, count)
			for n := range rows {
				for range s.below(5) {
					rows[n] = append(rows[n], cells[s.below(len(cells))])
				}
			}
			orders(t, rows, k)
			orders(t, make([]api.Row, count), k)
		}
	}
	for _, k := range keys {
		if got := Order(nil, k); len(got) != 0 {
			t.Errorf("Order of no rows: %v", got)
		}
		orders(t, []api.Row{}, k)
		orders(t, []api.Row{nil, {}, {{}}, {{}, {}}, nums(1), nil, nums(1, 2), {num(1), {}}}, k)
	}
	// More than a segment may have.
	orders(t, s.rows([]int{api.Int, api.Text}, 5000, 30), 2)
	orders(t, []api.Row{make(api.Row, 5000), append(make(api.Row, 4999), num(-1)), nil}, great)
}

// Rows that are the same in these columns stand as they came.
func TestOrderKeepsWhatIsTheSame(t *testing.T) {
	var rows []api.Row
	for k := range 1000 {
		rows = append(rows, nums(k*7%3, k%2, -k))
	}
	for keys := range 3 {
		got := Order(rows, keys)
		for k := 1; k < len(got); k++ {
			x := stands(rows[got[k-1]], rows[got[k]], keys)
			if x > 0 || x == 0 && got[k-1] >= got[k] {
				t.Fatalf("Order by %d: %d ahead of %d", keys, got[k-1], got[k])
			}
		}
		orders(t, rows, keys)
	}
}

func TestBuild(t *testing.T) {
	g := made(t, 40)
	var rows []api.Row
	for k := range 100 {
		rows = append(rows, api.Row{num(k * 7 % 10), txt(word(k))})
	}
	rows[50][1] = api.Cell{}
	s, e := Build(g.d, g.m, rows, []int{api.Int, api.Text}, 1)
	if !slices.Equal(s.Kinds, []int{api.Int, api.Text}) || s.Keys != 1 || s.Count != 100 || len(s.Cols) != 2 || e != api.OK {
		t.Fatalf("Build: %v, %d", s, e)
	}
	var zones []api.Zone
	for _, ref := range s.Cols[0] {
		zones = append(zones, ref.Zone)
	}
	if want := []api.Zone{{Min: num(0), Max: num(6), Count: 64}, {Min: num(6), Max: num(9), Count: 36}}; !slices.Equal(zones, want) {
		t.Errorf("the first column's zones: %v, not %v", zones, want)
	}
	// The null's row has a 0 ahead of it: it stands in the first block.
	if z := s.Cols[1][0].Zone; z.Min != txt(word(0)) || z.Nulls != 1 || z.Count != 64 {
		t.Errorf("the second column's first zone: %v", z)
	}
	// The second column lies behind the first one, and all of it waits.
	at := 0
	for _, ref := range slices.Concat(s.Cols...) {
		if ref.At.First != at {
			t.Errorf("%v lies not at %d", ref, at)
		}
		at += ref.At.Count
	}
	if !slices.Equal(g.m.Holes(), []api.Extent{{First: at, Count: 40 - at}}) || !slices.Equal(g.d.Waiting(), below(at)) {
		t.Errorf("the holes are %v, and %v wait", g.m.Holes(), g.d.Waiting())
	}
}

// Refs, blocks and the map are as layer 19's Lay leaves them, and the rows are those it was built of (Se4).
func TestBuildOfEachCount(t *testing.T) {
	s := stir(7)
	for _, kinds := range mixes() {
		all := below(len(kinds))
		for _, count := range []int{0, 1, 2, 63, 64, 65, 127, 128, 129, 200} {
			for _, many := range []int{1, 3, 300} {
				rows := s.rows(kinds, count, many)
				for keys := range len(kinds) + 1 {
					if keys > 3 && keys < len(kinds) {
						continue
					}
					g := made(t, 400)
					r := g.holds(t, rows, kinds, keys)
					tells(t, r, ordered(rows, keys), all, one(t, below(count)...))
					for _, none := range []int{-1, -2, least, len(kinds) + 1, len(kinds) + 2, 1<<32 + 1, great} {
						g.buildsNone(t, rows, kinds, none, api.ErrArg)
					}
				}
			}
		}
	}
}

func TestBuildOfAsManyAsMayBe(t *testing.T) {
	s := stir(8)
	for _, kinds := range [][]int{{api.Int}, {api.Text, api.Int}, kindsOf(16, 1)} {
		g := made(t, 4096)
		rows := s.rows(kinds, limit, 300)
		r := g.holds(t, rows, kinds, len(kinds))
		tells(t, r, ordered(rows, len(kinds)), below(len(kinds)), one(t, below(limit)...))
		for _, count := range []int{limit + 1, limit + 64, 2 * limit} {
			refuses(t, s.rows(kinds, count, 9), kinds, 1)
			refuses(t, make([]api.Row, count), kinds, 0)
		}
	}
}

// refuses fails if Build does not tell ErrArg, also where there is no room, and no power.
func refuses(t *testing.T, rows []api.Row, kinds []int, keys int) {
	t.Helper()
	for _, full := range []bool{false, true} {
		for _, off := range []bool{false, true} {
			g := made(t, 12)
			g.d.Write(3, strings.Repeat("w", size))
			if full {
				g.m.Take(api.Extent{First: 0, Count: 12})
			}
			if off {
				turnedOff(t, g.d)
			}
			g.buildsNone(t, rows, kinds, keys, api.ErrArg)
		}
	}
}

func TestBuildOfNoKinds(t *testing.T) {
	for _, rows := range [][]api.Row{nil, {}, {nil}, {{}}, {nums(1)}} {
		for _, kinds := range [][]int{nil, {}} {
			for _, keys := range []int{0, -1, 1} {
				refuses(t, rows, kinds, keys)
			}
		}
	}
	made(t, 20).builds(t, []api.Row{make(api.Row, 16)}, kindsOf(16, 0), 16)
	for _, count := range []int{17, 18, 32, 100} {
		refuses(t, nil, kindsOf(count, 0), 0)
		refuses(t, []api.Row{make(api.Row, count)}, kindsOf(count, 0), 1)
		refuses(t, []api.Row{make(api.Row, 16)}, kindsOf(count, 0), 1)
	}
	for _, none := range noKinds() {
		for at := range 3 {
			kinds := []int{api.Int, api.Text, api.Int}
			kinds[at] = none
			refuses(t, nil, kinds, 0)
			refuses(t, []api.Row{make(api.Row, 3)}, kinds, 1)
		}
		refuses(t, []api.Row{{{Kind: none}}}, []int{none}, 1)
	}
}

func TestBuildOfKeysThatMayNotBe(t *testing.T) {
	for count := 1; count <= 16; count++ {
		kinds := kindsOf(count, 0)
		for _, keys := range []int{-1, -16, least, count + 1, 17 + count, 1 << 32, great} {
			refuses(t, nil, kinds, keys)
			refuses(t, []api.Row{make(api.Row, count)}, kinds, keys)
		}
		for _, keys := range []int{0, 1, count} {
			made(t, 20).builds(t, []api.Row{make(api.Row, count)}, kinds, keys)
			made(t, 1).builds(t, nil, kinds, keys)
		}
	}
}

// A row, the first one, one of the midst or the last one, with a cell too few, one too many, of the other kind, or that may not be.
func TestBuildOfRowsThatMayNotBe(t *testing.T) {
	s := stir(9)
	for _, kinds := range [][]int{{api.Int}, {api.Text}, {api.Int, api.Text, api.Int}} {
		for _, count := range []int{1, 3, 64, 65, 129} {
			for _, at := range []int{0, count / 2, count - 1} {
				with := func(change func(row api.Row) api.Row) {
					t.Helper()
					rows := s.rows(kinds, count, 9)
					rows[at] = change(rows[at])
					refuses(t, rows, kinds, len(kinds))
				}
				with(func(row api.Row) api.Row { return nil })
				with(func(row api.Row) api.Row { return row[:len(row)-1] })
				with(func(row api.Row) api.Row { return append(row, api.Cell{}) })
				with(func(row api.Row) api.Row { return append(row, row...) })
				for col, kind := range kinds {
					other := []api.Cell{txt(""), txt("7"), num(0), num(7)}[kind/2*2:][:2]
					for _, c := range append(oddCells(), other...) {
						with(func(row api.Row) api.Row { row[col] = c; return row })
					}
				}
			}
		}
	}
	rows := s.rows([]int{api.Int}, limit, 9)
	rows[limit-1][0] = txt("a")
	refuses(t, rows, []int{api.Int}, 1)
}

// A device and a map must be there, whatever else is handed in.
func TestBuildWithoutADeviceOrAMap(t *testing.T) {
	g := made(t, 12)
	was := g.seen()
	for _, rows := range [][]api.Row{nil, {nums(1)}, {nil}, {{txt("a")}}, make([]api.Row, limit+1)} {
		for _, kinds := range [][]int{{api.Int}, nil, {7}} {
			for _, keys := range []int{0, 1, -1} {
				for _, d := range []*device.Device{nil, {}, g.d} {
					for _, m := range []*extent.Map{nil, {}, g.m} {
						if d == g.d && m == g.m {
							continue
						}
						if s, e := Build(d, m, rows, kinds, keys); !alike(s, api.Segment{}) || e != api.ErrArg {
							t.Fatalf("Build without a device, or a map: %v, %d", s, e)
						}
					}
				}
			}
		}
	}
	g.stays(t, was, "Build without a device, or a map")
	turnedOff(t, g.d)
	if s, e := Build(g.d, nil, []api.Row{nums(1)}, []int{api.Int}, 0); !alike(s, api.Segment{}) || e != api.ErrArg {
		t.Errorf("Build without a map, and without power: %v, %d", s, e)
	}
}

// wide are rows whose columns have blocks of some of the device's, of one alone, and of some again; how many there are in all.
func wide(t *testing.T) ([]api.Row, []int, int) {
	t.Helper()
	kinds := []int{api.Text, api.Int, api.Text}
	var rows []api.Row
	for k := range 100 {
		rows = append(rows, api.Row{txt(word(k) + xs(k%7)), num(k % 3), txt(word(999-k) + xs(20+k%7))})
	}
	g := made(t, 100)
	s := g.builds(t, rows, kinds, 2)
	blocks := make([]int, 3)
	for col, refs := range s.Cols {
		if len(refs) != 2 {
			t.Fatalf("the column %d: %v", col, refs)
		}
		for _, ref := range refs {
			blocks[col] += ref.At.Count
		}
	}
	if blocks[0] < 3 || blocks[1] != 2 || blocks[2] < 4 || s.Cols[0][0].At.Count < 2 || s.Cols[2][1].At.Count < 2 {
		t.Fatalf("the columns have %v blocks: %v", blocks, s.Cols)
	}
	return rows, kinds, blocks[0] + blocks[1] + blocks[2]
}

// Maps with just enough room, and with less, by one block, by two, by all: nothing of the map, nor of the device, is changed.
func TestBuildWithoutRoom(t *testing.T) {
	rows, kinds, need := wide(t)
	for room := range need + 3 {
		for _, off := range []bool{false, true} {
			g := made(t, 60)
			g.m.Take(api.Extent{First: 0, Count: 60})
			g.m.Free(api.Extent{First: 20, Count: room})
			g.d.Write(21, strings.Repeat("w", size))
			g.d.Sync()
			g.d.Write(22, strings.Repeat("v", size))
			if off {
				turnedOff(t, g.d)
			}
			switch {
			case room < need:
				g.buildsNone(t, rows, kinds, 2, api.ErrFull)
			case off:
				g.buildsNone(t, rows, kinds, 2, api.ErrOff)
			default:
				g.builds(t, rows, kinds, 2)
			}
		}
	}
	// A fuse is not used up by what has no room.
	g := made(t, need-1)
	g.d.Fuse(1)
	g.buildsNone(t, rows, kinds, 2, api.ErrFull)
	if e := g.d.Write(0, xs(size)); e != api.OK {
		t.Errorf("a write behind Build, refused: %d", e)
	}
	if e := g.d.Write(0, xs(size)); e != api.ErrOff {
		t.Errorf("a second one: %d", e)
	}
}

// Maps with holes by a fixed rule: Build takes what layer 19's Lay would, column by column, or nothing.
func TestBuildIntoHoles(t *testing.T) {
	s := stir(11)
	full, room := 0, 0
	for k := range 120 {
		g := made(t, 80)
		for at := range 80 {
			if s.below(3+k%9) == 0 {
				g.m.Take(api.Extent{First: at, Count: 1})
			}
		}
		for {
			kinds := mixes()[s.below(5)]
			rows, keys := s.rows(kinds, s.below(150), 1+s.below(300)), s.below(len(kinds)+1)
			if _, _, fits := laid(t, g, rows, kinds, keys); !fits {
				g.buildsNone(t, rows, kinds, keys, api.ErrFull)
				full++
				break
			}
			room++
			was := g.seen()
			own := g.builds(t, rows, kinds, keys)
			if s.below(4) == 0 {
				if e := Free(g.m, own); e != api.OK {
					t.Fatalf("Free(%v): %d", own, e)
				}
				g.mapStays(t, was, "Build and Free")
			}
		}
	}
	if full < 100 || room < 100 {
		t.Errorf("%d times no room, %d times some", full, room)
	}
}

// The power goes off at each of the writes, or is off.
func TestBuildWithAFuse(t *testing.T) {
	rows, kinds, need := wide(t)
	for fuse := range need + 2 {
		g := made(t, 60)
		g.m.Take(api.Extent{First: 1, Count: 2})
		_, now, _ := laid(t, g, rows, kinds, 2)
		g.d.Fuse(fuse)
		if fuse >= need {
			g.builds(t, rows, kinds, 2)
			continue
		}
		g.buildsNone(t, rows, kinds, 2, api.ErrOff)
		if !g.d.Off() || !slices.Equal(g.d.Waiting(), now.waiting[:fuse]) {
			t.Errorf("a fuse of %d: off %t, %v wait, not %v", fuse, g.d.Off(), g.d.Waiting(), now.waiting[:fuse])
		}
		was := g.seen()
		g.buildsNone(t, rows, kinds, 2, api.ErrOff)
		g.stays(t, was, "Build without power")
		// Behind a crash all is as ever.
		g.d.Crash(nil)
		tells(t, g.holds(t, rows, kinds, 2), ordered(rows, 2), []int{0, 1, 2}, one(t, below(100)...))
	}
}

// Without power what has no rows is built none the less.
func TestBuildOfNoRowsWithoutPower(t *testing.T) {
	g := made(t, 1)
	g.m.Alloc(1)
	turnedOff(t, g.d)
	was := g.seen()
	for _, kinds := range mixes() {
		for _, rows := range [][]api.Row{nil, {}} {
			want := api.Segment{Kinds: kinds, Keys: 1, Cols: make([][]api.Ref, len(kinds))}
			if s, e := Build(g.d, g.m, rows, kinds, 1); !alike(s, want) || e != api.OK {
				t.Errorf("Build of no rows: %v, %d", s, e)
			}
		}
		g.buildsNone(t, []api.Row{make(api.Row, len(kinds))}, kinds, 1, api.ErrFull)
	}
	g.stays(t, was, "Build of no rows")
}

// A map of more blocks than the device has: a write is refused, and nothing is left of the others.
func TestBuildOntoAShorterDevice(t *testing.T) {
	rows, kinds, need := wide(t)
	for blocks := 1; blocks < need+4; blocks++ {
		for taken := range 5 {
			g := unlike(t, blocks, 60)
			g.m.Take(api.Extent{First: 0, Count: taken})
			g.d.Write(0, strings.Repeat("w", size))
			if taken+need <= blocks {
				g.builds(t, rows, kinds, 2)
				continue
			}
			g.buildsNone(t, rows, kinds, 2, api.ErrArg)
			g.d.Fuse(0)
			g.buildsNone(t, rows, kinds, 2, api.ErrArg)
			turnedOff(t, g.d)
			if taken < blocks {
				g.buildsNone(t, rows, kinds, 2, api.ErrOff)
			} else {
				g.buildsNone(t, rows, kinds, 2, api.ErrArg)
			}
		}
	}
	// One column of the midst alone is not there: its blocks are too long for the holes ahead.
	var midst []api.Row
	for k, row := range rows {
		midst = append(midst, api.Row{num(k), row[2], num(k % 3)})
	}
	g := unlike(t, 20, 60)
	g.m.Take(api.Extent{First: 0, Count: 60})
	for _, hole := range []api.Extent{{First: 1, Count: 1}, {First: 3, Count: 1}, {First: 5, Count: 1}, {First: 7, Count: 1}, {First: 30, Count: 30}} {
		g.m.Free(hole)
	}
	g.buildsNone(t, midst, []int{api.Int, api.Text, api.Int}, 1, api.ErrArg)
	unlike(t, 60, 60).builds(t, midst, []int{api.Int, api.Text, api.Int}, 1)
	// A map of fewer blocks is none the worse.
	unlike(t, 60, need).builds(t, rows, kinds, 2)
	unlike(t, 60, need-1).buildsNone(t, rows, kinds, 2, api.ErrFull)
}

func TestBuildTwice(t *testing.T) {
	s := stir(12)
	g := made(t, 200)
	kinds := []int{api.Text, api.Int}
	first, second := s.rows(kinds, 130, 90), s.rows(kinds, 70, 40)
	ahead := g.seen()
	one1 := g.builds(t, first, kinds, 1)
	among := g.seen()
	two := g.builds(t, second, kinds, 2)
	again := g.builds(t, first, kinds, 1)
	for _, x := range []struct {
		own  api.Segment
		rows []api.Row
	}{{one1, ordered(first, 1)}, {two, ordered(second, 2)}, {again, ordered(first, 1)}} {
		tells(t, g.opens(t, x.own), x.rows, []int{0, 1}, one(t, below(len(x.rows))...))
	}
	for _, own := range []api.Segment{again, two} {
		if e := Free(g.m, own); e != api.OK {
			t.Errorf("Free: %d", e)
		}
	}
	g.mapStays(t, among, "Free of the last ones")
	if e := Free(g.m, two); e != api.ErrNone {
		t.Errorf("Free, twice: %d", e)
	}
	g.mapStays(t, among, "Free, twice")
	if e := Free(g.m, one1); e != api.OK {
		t.Errorf("Free: %d", e)
	}
	g.mapStays(t, ahead, "Free of all")
}

func TestFreeOfNone(t *testing.T) {
	g := made(t, 30)
	s := g.builds(t, stir(1).rows([]int{api.Int, api.Text}, 70, 9), []int{api.Int, api.Text}, 1)
	was := g.seen()
	for _, none := range []api.Segment{{}, {Kinds: []int{api.Int}, Cols: [][]api.Ref{nil}}, {Cols: [][]api.Ref{{}, nil}}, {Kinds: []int{9}, Keys: -1, Count: 7}} {
		if e := Free(g.m, none); e != api.OK {
			t.Errorf("Free of no refs: %d", e)
		}
		for _, m := range []*extent.Map{nil, {}} {
			if e := Free(m, none); e != api.ErrArg {
				t.Errorf("Free of no refs, without a map: %d", e)
			}
		}
	}
	for _, m := range []*extent.Map{nil, {}} {
		if e := Free(m, s); e != api.ErrArg {
			t.Errorf("Free without a map: %d", e)
		}
	}
	g.stays(t, was, "Free of none")
}

// What is not taken, or may not be, is told, the first of them, and all others are free.
func TestFreeOfSomeThatAreNot(t *testing.T) {
	ref := func(first, count int) api.Ref { return api.Ref{At: api.Extent{First: first, Count: count}} }
	refused := []struct {
		ref  api.Ref
		want api.Errno
	}{
		{ref(0, 1), api.ErrNone}, {ref(18, 2), api.ErrNone}, {ref(1, 20), api.ErrArg}, {ref(-1, 1), api.ErrArg}, {ref(5, 0), api.ErrArg},
		{ref(great, great), api.ErrArg}, {ref(least, least), api.ErrArg}, {ref(0, 20), api.ErrNone},
	}
	good := []api.Ref{ref(2, 3), ref(8, 1), ref(9, 4), ref(14, 2)}
	holes := []api.Extent{{First: 0, Count: 1}, {First: 2, Count: 3}, {First: 8, Count: 5}, {First: 14, Count: 2}, {First: 19, Count: 1}}
	// The refs are parted into columns at each place.
	freed := func(refs []api.Ref, want api.Errno) {
		t.Helper()
		for from := range len(refs) + 1 {
			for to := from; to <= len(refs); to++ {
				g := made(t, 20)
				g.m.Take(api.Extent{First: 1, Count: 18})
				s := api.Segment{Kinds: []int{1, 2, 1}, Cols: [][]api.Ref{refs[:from], refs[from:to], refs[to:]}}
				was := copied(s)
				if e := Free(g.m, s); e != want || !slices.Equal(g.m.Holes(), holes) {
					t.Fatalf("Free(%v): %d, not %d; holes %v", s.Cols, e, want, g.m.Holes())
				}
				if !alike(s, was) {
					t.Fatalf("Free changed the segment: %v, not %v", s, was)
				}
			}
		}
	}
	freed(good, api.OK)
	for _, x := range refused {
		for at := range 5 {
			freed(slices.Insert(slices.Clone(good), at, x.ref), x.want)
		}
		for _, y := range refused {
			for at := range 5 {
				freed(append(slices.Insert(slices.Clone(good), at, x.ref), y.ref), x.want)
			}
		}
	}
	freed(append(slices.Clone(good), good[0]), api.ErrNone)
}

// Segments that may be, and that may not.

// told is a ref of so many bytes and cells.
func told(first, bytes, count int) api.Ref {
	return api.Ref{At: api.Extent{First: first, Count: (bytes + size - 1) / size}, Bytes: bytes, Zone: api.Zone{Min: num(1), Max: num(2), Count: count}}
}

// refsOf are refs of so many cells.
func refsOf(count int) []api.Ref {
	var l []api.Ref
	for ; count > 0; count -= most {
		l = append(l, told(len(l), 100, min(count, most)))
	}
	return l
}

// segmentOf is one of so many columns and rows.
func segmentOf(columns, keys, count int) api.Segment {
	s := api.Segment{Kinds: kindsOf(columns, 0), Keys: keys, Count: count}
	for range columns {
		s.Cols = append(s.Cols, refsOf(count))
	}
	return s
}

// mayBe fails if Check, or Open, does not tell that a segment may be, or may not.
func mayBe(t *testing.T, s api.Segment, may bool) {
	t.Helper()
	was := copied(s)
	want := api.ErrArg
	if may {
		want = api.OK
	}
	if e := Check(s); e != want {
		t.Fatalf("Check(%v): %d, not %d", s, e, want)
	}
	for _, off := range []bool{false, true} {
		d := made(t, 2).d
		if off {
			turnedOff(t, d)
		}
		r, e := Open(d, s)
		if (r != nil) != may || e != want {
			t.Fatalf("Open(%v): %t, %d, not %d", s, r != nil, e, want)
		}
		if may && (r.Count() != s.Count || r.Reads() != 0) {
			t.Fatalf("Open(%v): %d rows, %d reads", s, r.Count(), r.Reads())
		}
	}
	for _, none := range []*device.Device{nil, {}} {
		if r, e := Open(none, s); r != nil || e != api.ErrArg {
			t.Fatalf("Open without a device: %t, %d", r != nil, e)
		}
	}
	if !alike(s, was) {
		t.Fatalf("Check, or Open, changed the segment: %v, not %v", s, was)
	}
}

func TestSegmentsThatMayBe(t *testing.T) {
	mayBe(t, api.Segment{}, false)
	mayBe(t, api.Segment{Count: 0, Cols: [][]api.Ref{}}, false)
	for columns := range 20 {
		for _, count := range []int{0, 1, 63, 64, 65, 128, 4032, 4033, 4095, 4096} {
			for _, keys := range []int{0, 1, columns / 2, columns} {
				mayBe(t, segmentOf(columns, keys, count), columns >= 1 && columns <= 16 && keys <= columns)
			}
			for _, keys := range []int{-1, columns + 1, 17, 1 << 32, least, great} {
				mayBe(t, segmentOf(columns, keys, count), false)
			}
		}
	}
}

// Kinds that are none, a kind too few or too many, columns one too few or too many.
func TestSegmentsOfOtherColumns(t *testing.T) {
	for _, columns := range []int{1, 2, 3, 16} {
		for _, count := range []int{0, 1, 65} {
			with := func(change func(s *api.Segment)) {
				t.Helper()
				s := segmentOf(columns, 1, count)
				change(&s)
				mayBe(t, s, false)
			}
			for _, none := range noKinds() {
				for _, col := range []int{0, columns / 2, columns - 1} {
					with(func(s *api.Segment) { s.Kinds[col] = none })
				}
			}
			with(func(s *api.Segment) { s.Kinds = s.Kinds[:columns-1]; s.Keys = 0 })
			with(func(s *api.Segment) { s.Kinds = append(s.Kinds, api.Int) })
			with(func(s *api.Segment) { s.Kinds = nil })
			with(func(s *api.Segment) { s.Cols = s.Cols[:columns-1] })
			with(func(s *api.Segment) { s.Cols = append(s.Cols, refsOf(count)) })
			with(func(s *api.Segment) { s.Cols = append(s.Cols, nil) })
			with(func(s *api.Segment) { s.Cols = nil })
		}
	}
}

// Each field of a ref in the first and in the last column; columns with other numbers of cells than Count.
func TestSegmentsOfOtherRefs(t *testing.T) {
	for _, columns := range []int{1, 2, 16} {
		for _, col := range []int{0, columns - 1} {
			for _, count := range []int{1, 64, 65, 130} {
				with := func(change func(ref *api.Ref), may bool) {
					t.Helper()
					for k := range refsOf(count) {
						s := segmentOf(columns, 1, count)
						change(&s.Cols[col][k])
						mayBe(t, s, may)
					}
				}
				for _, n := range []int{-1, least} {
					with(func(ref *api.Ref) { ref.At.First = n }, false)
				}
				for _, n := range []int{0, 4096, great} {
					with(func(ref *api.Ref) { ref.At.First = n }, true)
				}
				for _, n := range []int{least, -1, 0, 2, great} {
					with(func(ref *api.Ref) { ref.At.Count = n }, false)
				}
				for _, n := range []int{least, -1, 0, 129, 1<<14 + 1, great} {
					with(func(ref *api.Ref) { ref.Bytes = n }, false)
				}
				with(func(ref *api.Ref) { ref.Bytes, ref.At.Count = 1<<14, 128 }, true)
				for _, n := range []int{least, -1, 0, 66, great} {
					with(func(ref *api.Ref) { ref.Zone.Count = n }, false)
				}
				with(func(ref *api.Ref) { ref.Zone.Nulls = least }, true)
				with(func(ref *api.Ref) { ref.Zone.Min = api.Cell{Kind: great} }, true)
				// The columns agree with each other, but not with Count.
				for _, n := range []int{least, -1, 0, count - 1, count + 1, count + 64, 4096, 4097, 1<<32 + count, great} {
					s := segmentOf(columns, 1, count)
					s.Count = n
					mayBe(t, s, n == count)
				}
				// One does not.
				for _, n := range []int{0, count - 1, count, count + 1, count + 64} {
					s := segmentOf(columns, 1, count)
					s.Cols[col] = refsOf(n)
					mayBe(t, s, n == count)
				}
				// One block short, in the midst.
				if count > most {
					s := segmentOf(columns, 1, count)
					s.Cols[col][0].Zone.Count--
					mayBe(t, s, false)
					s.Cols[col][len(s.Cols[col])-1].Zone.Count++
					mayBe(t, s, false)
				}
			}
		}
	}
	for _, n := range []int{4097, 4160, 8192} {
		mayBe(t, segmentOf(1, 0, n), false)
		mayBe(t, segmentOf(16, 16, n), false)
	}
}

// Se2

// A reader, the ground it reads, the segment it was opened with, and the rows in order.
type held struct {
	ground
	r    *Reader
	s    api.Segment
	rows []api.Row
}

// hold is a reader of rows that are built, with all that is known of them.
func hold(t *testing.T, rows []api.Row, kinds []int, keys int) held {
	t.Helper()
	g := made(t, 20+len(rows)*len(kinds)/8)
	s := g.builds(t, rows, kinds, keys)
	g.d.Sync()
	return held{g, g.opens(t, s), s, ordered(rows, keys)}
}

// chosen are places below a count: none, one, the first, the last, all, at blocks' borders, and others.
func chosen(count int, s *stirrer) [][]int {
	all := [][]int{nil}
	for _, wanted := range []func(at int) bool{
		func(at int) bool { return true },
		func(at int) bool { return at == 0 },
		func(at int) bool { return at == count-1 },
		func(at int) bool { return at == 63 || at == 64 },
		func(at int) bool { return at/64 == 1 },
		func(at int) bool { return at%2 == 1 },
		func(at int) bool { return s.below(20) == 0 },
	} {
		all = append(all, where(count, wanted))
	}
	slices.SortFunc(all, slices.Compare)
	return slices.CompactFunc(all, slices.Equal)
}

func TestReader(t *testing.T) {
	var rows []api.Row
	for k := range 100 {
		rows = append(rows, api.Row{num(k * 7 % 100), txt(word(k))})
	}
	rows[0][1] = api.Cell{}
	h := hold(t, rows, []int{api.Int, api.Text}, 1)
	if h.r.Count() != 100 || h.r.Zone(0) != (api.Zone{Min: num(0), Max: num(99), Count: 100}) || h.r.Zone(1) != (api.Zone{Min: txt(word(1)), Max: txt(word(99)), Nulls: 1, Count: 100}) {
		t.Errorf("%d, %v, %v", h.r.Count(), h.r.Zone(0), h.r.Zone(1))
	}
	all := one(t, below(100)...)
	if l, e := h.r.Scan(0, asked(api.TestLt, num(3)), all); !slices.Equal(l.Spans(), []api.Span{{Lo: 0, Hi: 3}}) || e != api.OK {
		t.Errorf("Scan: %v, %d", l.Spans(), e)
	}
	if l, e := h.r.Scan(1, isNone, all); !slices.Equal(l.Spans(), []api.Span{{Lo: 0, Hi: 1}}) || e != api.OK {
		t.Errorf("Scan: %v, %d", l.Spans(), e)
	}
	if l, e := h.r.Gather(1, one(t, 0, 7, 14)); !slices.Equal(l, []api.Cell{{}, txt(word(1)), txt(word(2))}) || e != api.OK {
		t.Errorf("Gather: %v, %d", l, e)
	}
	if hi, lo, e := h.r.Sum(0, all); hi != 0 || lo != 4950 || e != api.OK {
		t.Errorf("Sum: %d, %d, %d", hi, lo, e)
	}
	if hi, lo, e := h.r.Sum(1, all); hi != 0 || lo != 0 || e != api.ErrArg {
		t.Errorf("Sum of texts: %d, %d, %d", hi, lo, e)
	}
	if l, e := h.r.Rows([]int{1, 0}, one(t, 7, 21)); !same(l, []api.Row{{txt(word(1)), num(7)}, {txt(word(3)), num(21)}}) || e != api.OK {
		t.Errorf("Rows: %v, %d", l, e)
	}
}

// Each call of each column is layer 19's of it, and the cells are those of the rows.
func TestColumns(t *testing.T) {
	s := stir(20)
	for _, kinds := range mixes() {
		for _, count := range []int{0, 1, 63, 64, 65, 129, 200} {
			keys := s.below(len(kinds) + 1)
			h := hold(t, s.rows(kinds, count, 1+s.below(60)), kinds, keys)
			for n, places := range chosen(count, s) {
				lists := listed(t, places)
				for col, kind := range kinds {
					all := tests(num(0), num(-20), txt(word(7)), txt("z"), s.cell(3-kind, 9))
					for k, q := range append(slices.DeleteFunc(all, func(q api.Test) bool { return q.Op < api.TestNull && q.Val.Kind == api.Null }), noTests()...) {
						if (k+n+col)%4 == 0 {
							likeColumn(t, h.ground, h.r, h.s, col, q, lists[k%len(lists)])
						}
					}
					cells := cellsOf(of(h.rows, []int{col}, places), 0)
					if got, e := h.r.Gather(col, lists[0]); !slices.Equal(got, cells) || e != api.OK {
						t.Fatalf("Gather(%d, %v): %v, %d, not %v", col, places, got, e, cells)
					}
					if kind == api.Int {
						if hi, lo, e := h.r.Sum(col, lists[0]); joined(hi, lo).Cmp(summed(cells)) != 0 || e != api.OK {
							t.Fatalf("Sum(%d, %v): %d, %d, %d, not %v", col, places, hi, lo, e, summed(cells))
						}
					}
				}
			}
		}
	}
}

// noColumns are numbers of columns that are none, of so many.
func noColumns(columns int) []int {
	return []int{-1, -2, least, columns, columns + 1, 17, 1 << 32, great}
}

// A column that is none is told ahead of a test that may not be, and of places that are not there, by one error.
func TestColumnsThatAreNone(t *testing.T) {
	s := stir(21)
	for _, kinds := range mixes() {
		for _, count := range []int{0, 70} {
			h := hold(t, s.rows(kinds, count, 20), kinds, 1)
			for _, col := range noColumns(len(kinds)) {
				for _, places := range [][]int{nil, {0}, below(count), {count}, {bound - 1}} {
					for _, l := range listed(t, places) {
						for _, q := range append(noTests(), isSome, asked(api.TestEq, num(1))) {
							columnNone(t, h.r, col, q, l)
						}
						rowsNone(t, h.r, []int{col}, l, api.ErrArg)
						rowsNone(t, h.r, []int{0, col}, l, api.ErrArg)
						rowsNone(t, h.r, []int{col, 0}, l, api.ErrArg)
						rowsNone(t, h.r, []int{0, col, 0}, l, api.ErrArg)
					}
				}
			}
			if h.r.Reads() != 0 {
				t.Errorf("%d blocks were read by calls that were refused", h.r.Reads())
			}
		}
	}
}

// Places that are just Count, one more, and the greatest; a test that may not be comes first; nothing is read.
func TestPlacesThatAreNotThere(t *testing.T) {
	s := stir(22)
	kinds := []int{api.Int, api.Text}
	for _, count := range []int{0, 1, 63, 64, 65, 128, 150} {
		h := hold(t, s.rows(kinds, count, 20), kinds, 1)
		for _, places := range [][]int{{count}, {count + 1}, {count + 64}, {bound - 1}, {0, count}, below(count + 1), append(below(count), bound-1), below(bound)} {
			for _, l := range listed(t, places) {
				for col := range kinds {
					if l, e := h.r.Scan(col, isSome, l); l.Count() != 0 || e != api.ErrNone {
						t.Fatalf("Scan(%v): %d", places, e)
					}
					if l, e := h.r.Scan(col, api.Test{Op: 9}, l); l.Count() != 0 || e != api.ErrArg {
						t.Fatalf("Scan by no test: %d", e)
					}
					if l, e := h.r.Gather(col, l); len(l) != 0 || e != api.ErrNone {
						t.Fatalf("Gather(%v): %d", places, e)
					}
					if hi, lo, e := h.r.Sum(col, l); hi != 0 || lo != 0 || e != api.ErrNone {
						t.Fatalf("Sum(%v): %d", places, e)
					}
				}
				for _, cols := range [][]int{nil, {}, {0}, {1}, {1, 0}, {1, 1, 0}} {
					rowsNone(t, h.r, cols, l, api.ErrNone)
				}
			}
		}
		reads(t, h.r, 0, 0, "calls that were refused")
	}
}

// Rows of no columns, of one, of all, of one twice, in another order; at no places, one, all, others, in each form.
func TestRows(t *testing.T) {
	s := stir(23)
	for _, kinds := range mixes() {
		for _, count := range []int{0, 1, 63, 64, 65, 129} {
			h := hold(t, s.rows(kinds, count, 40), kinds, s.below(len(kinds)+1))
			last := len(kinds) - 1
			backwards := below(len(kinds))
			slices.Reverse(backwards)
			for _, cols := range [][]int{nil, {}, {0}, {last}, {0, 0}, {last, 0}, {0, last, 0, last, last}, below(len(kinds)), backwards, slices.Repeat([]int{last}, 20)} {
				for _, places := range chosen(count, s) {
					for _, l := range listed(t, places) {
						was, form := slices.Clone(cols), l.Form()
						tells(t, h.r, h.rows, cols, l)
						if !slices.Equal(cols, was) || l.Form() != form || !slices.Equal(slices.Collect(l.Places()), places) {
							t.Fatalf("Rows changed its columns, or its list: %v, %v", cols, l.Spans())
						}
					}
				}
			}
		}
	}
}

// As many rows as there are places, of no columns, too.
func TestRowsOfNoColumns(t *testing.T) {
	h := hold(t, stir(24).rows([]int{api.Int}, 100, 9), []int{api.Int}, 1)
	for _, places := range [][]int{nil, {0}, {99}, below(100)} {
		for _, l := range listed(t, places) {
			got, e := h.r.Rows(nil, l)
			if len(got) != len(places) || slices.ContainsFunc(got, func(row api.Row) bool { return len(row) != 0 }) || e != api.OK {
				t.Errorf("Rows of no columns: %v, %d", got, e)
			}
		}
	}
	reads(t, h.r, 0, 0, "Rows of no columns")
}

// Reads are those of all columns together.
func TestReads(t *testing.T) {
	var rows []api.Row
	for k := range 150 {
		rows = append(rows, api.Row{num(k), txt(word(k)), num(k % 2)})
	}
	h := hold(t, rows, []int{api.Int, api.Text, api.Int}, 1)
	total := 0
	ask := func(want int, call func()) {
		t.Helper()
		call()
		total += want
		if h.r.Reads() != total {
			t.Fatalf("Reads: %d, not %d", h.r.Reads(), total)
		}
	}
	all := one(t, below(150)...)
	ask(0, func() {})
	for range 2 {
		ask(0, func() { h.r.Count(); h.r.Zone(0); h.r.Zone(7); h.r.Reads() })
		ask(3, func() { h.r.Gather(0, all) })
		ask(1, func() { h.r.Gather(1, one(t, 64)) })
		ask(3, func() { h.r.Sum(2, all) })
		ask(0, func() { h.r.Sum(1, all) })
		ask(0, func() { h.r.Scan(0, asked(api.TestLt, num(64)), all) })
		ask(1, func() { h.r.Scan(0, asked(api.TestLt, num(65)), all) })
		ask(3, func() { h.r.Scan(2, asked(api.TestEq, num(1)), all) })
		ask(6, func() { h.r.Rows([]int{0, 1}, all) })
		ask(2, func() { h.r.Rows([]int{2, 1}, one(t, 149)) })
		ask(0, func() { h.r.Rows([]int{2, 1}, poslist.List{}) })
		ask(0, func() { h.r.Rows(nil, all) })
		ask(0, func() { h.r.Rows([]int{0, 3}, all) })
		ask(0, func() { h.r.Rows([]int{0, 1}, one(t, 0, 150)) })
		ask(0, func() { h.r.Gather(3, all) })
		ask(0, func() { h.r.Seek(nil) })
		ask(0, func() { h.r.Seek(nums(1, 2)) })
	}
	// Another reader of the segment counts for itself.
	if again := h.opens(t, h.s); again.Reads() != 0 {
		t.Errorf("Reads of another reader: %d", again.Reads())
	}
	was := h.r.Reads()
	if _, e := h.r.Seek(nums(77)); h.r.Reads() <= was || e != api.OK {
		t.Errorf("Seek reads nothing: %d, %d", h.r.Reads()-was, e)
	}
}

// Se3

func TestSeek(t *testing.T) {
	var rows []api.Row
	for k := range 200 {
		rows = append(rows, api.Row{num(k / 20 * 10), txt(word(k % 20 / 4)), num(k)})
	}
	h := hold(t, rows, []int{api.Int, api.Text, api.Int}, 2)
	for _, x := range []struct {
		prefix api.Row
		lo, hi int
	}{
		{nil, 0, 200},
		{api.Row{}, 0, 200},
		{nums(0), 0, 20},
		{nums(30), 60, 80},
		{nums(90), 180, 200},
		{nums(-1), 0, 0},
		{nums(least), 0, 0},
		{api.Row{{}}, 0, 0},
		{nums(1), 20, 20},
		{nums(35), 80, 80},
		{nums(91), 200, 200},
		{nums(great), 200, 200},
		{api.Row{txt("")}, 200, 200},
		{api.Row{num(30), txt(word(0))}, 60, 64},
		{api.Row{num(30), txt(word(1))}, 64, 68},
		{api.Row{num(30), txt(word(4))}, 76, 80},
		{api.Row{num(30), txt("")}, 60, 60},
		{api.Row{num(30), {}}, 60, 60},
		{api.Row{num(30), num(7)}, 60, 60},
		{api.Row{num(30), txt(word(1) + "x")}, 68, 68},
		{api.Row{num(30), txt(word(9))}, 80, 80},
		{api.Row{num(35), txt(word(1))}, 80, 80},
		{api.Row{num(-5), txt(word(1))}, 0, 0},
		{api.Row{num(95), txt(word(1))}, 200, 200},
		{api.Row{num(0), txt(word(0))}, 0, 4},
		{api.Row{num(90), txt(word(4))}, 196, 200},
		{api.Row{num(90), txt(word(5))}, 200, 200},
		{api.Row{txt(""), txt(word(0))}, 200, 200},
		{api.Row{{}, txt(word(0))}, 0, 0},
	} {
		if span, e := h.r.Seek(x.prefix); span != (api.Span{Lo: x.lo, Hi: x.hi}) || e != api.OK {
			t.Errorf("Seek(%v): %v, %d, not %d to %d", x.prefix, span, e, x.lo, x.hi)
		}
		seeks(t, h.r, h.rows, x.prefix)
	}
	seeksNone(t, h.r, rows[0], api.ErrArg)
	seeksNone(t, h.r, nums(1, 2, 3, 4), api.ErrArg)
}

// prefixes are rows' first cells, as they are, and each cell turned to one around it, or of another kind.
func prefixes(rows []api.Row, kinds []int, keys int, s *stirrer) []api.Row {
	all := []api.Row{nil}
	for col := range keys {
		turned := []api.Cell{{}, num(least), num(great), num(0), num(5), txt(""), txt("t"), txt(strings.Repeat("\xff", 32)), s.cell(kinds[col], 40)}
		var heads []api.Row
		for range 6 {
			if len(rows) > 0 {
				heads = append(heads, rows[s.below(len(rows))][:col+1])
			}
		}
		heads = append(heads, make(api.Row, col+1))
		for _, head := range heads {
			all = append(all, head)
			for at := range head {
				own := slices.Clone(head)
				own[at] = turned[s.below(len(turned))]
				all = append(all, own)
			}
		}
	}
	return all
}

// Segments of all manners, prefixes of 0 to Keys cells; and longer ones.
func TestSeekOfAllManners(t *testing.T) {
	s := stir(30)
	for _, kinds := range mixes() {
		for _, count := range []int{0, 1, 2, 63, 64, 65, 128, 129, 300} {
			for _, many := range []int{1, 4, 40} {
				keys := min(s.below(len(kinds)+1), 4)
				h := hold(t, s.rows(kinds, count, many), kinds, keys)
				for _, prefix := range prefixes(h.rows, kinds, keys, s) {
					seeks(t, h.r, h.rows, prefix)
				}
				for _, more := range []int{1, 2, 17} {
					seeksNone(t, h.r, make(api.Row, keys+more), api.ErrArg)
				}
			}
		}
	}
	kinds := []int{api.Int, api.Text, api.Int}
	for _, many := range []int{3, 20} {
		h := hold(t, s.rows(kinds, limit, many), kinds, 3)
		for _, prefix := range prefixes(h.rows, kinds, 3, s) {
			seeks(t, h.r, h.rows, prefix)
		}
	}
}

// Rows that are the same over several blocks, and just at a block's borders.
func TestSeekAtBorders(t *testing.T) {
	for _, x := range [][]int{{63, 64, 65}, {63, 1, 64, 1, 63}, {64, 64}, {1, 62, 1, 1, 126, 1}, {192}, {10, 150, 10}, {62, 2, 62, 2}, {65, 127, 8}, {128, 1}, {1, 128}} {
		var numbers, texts []api.Row
		for k, times := range x {
			for range times {
				numbers, texts = append(numbers, nums(10*k, len(numbers))), append(texts, api.Row{txt(word(10 * k)), {}})
			}
		}
		a, b := hold(t, numbers, []int{api.Int, api.Int}, 1), hold(t, texts, []int{api.Text, api.Int}, 2)
		at := 0
		for k, times := range x {
			want := api.Span{Lo: at, Hi: at + times}
			if span, e := a.r.Seek(nums(10 * k)); span != want || e != api.OK {
				t.Errorf("Seek the number %d of %v: %v, %d", k, x, span, e)
			}
			if span, e := b.r.Seek(api.Row{txt(word(10 * k))}); span != want || e != api.OK {
				t.Errorf("Seek the text %d of %v: %v, %d", k, x, span, e)
			}
			if span, e := b.r.Seek(api.Row{txt(word(10 * k)), {}}); span != want || e != api.OK {
				t.Errorf("Seek the text %d, and a null, of %v: %v, %d", k, x, span, e)
			}
			for _, near := range []int{-1, 1} {
				seeks(t, a.r, a.rows, nums(10*k+near))
				seeks(t, b.r, b.rows, api.Row{txt(word(10*k + 1 + near)), num(near)})
			}
			at += times
		}
	}
}

// Without keys only the empty prefix may be.
func TestSeekWithoutKeys(t *testing.T) {
	for _, count := range []int{0, 1, 100} {
		h := hold(t, stir(31).rows([]int{api.Int}, count, 9), []int{api.Int}, 0)
		seeks(t, h.r, h.rows, nil)
		seeks(t, h.r, h.rows, api.Row{})
		for _, prefix := range []api.Row{nums(0), {{}}, {txt("a")}, {{Kind: 9}}, nums(1, 2)} {
			seeksNone(t, h.r, prefix, api.ErrArg)
		}
	}
}

// A cell that may not be, at each place of the prefix, whatever is ahead of it.
func TestSeekOfCellsThatMayNotBe(t *testing.T) {
	s := stir(32)
	kinds := []int{api.Int, api.Text, api.Int}
	for _, count := range []int{0, 1, 100} {
		h := hold(t, s.rows(kinds, count, 9), kinds, 3)
		for _, odd := range oddCells() {
			for length := 1; length <= 4; length++ {
				for at := range length {
					prefix := make(api.Row, length)
					for k := range prefix {
						prefix[k] = s.cell(1+k%2, 9)
					}
					prefix[at] = odd
					seeksNone(t, h.r, prefix, api.ErrArg)
				}
			}
		}
		reads(t, h.r, 0, 0, "Seek, refused")
	}
}

// Blocks that are not as they were laid

// spoil turns a block's bytes, behind all backs.
func (g ground) spoil(t *testing.T, ref api.Ref) {
	t.Helper()
	if e := g.d.Spoil(ref.At.First, xs(size)); e != api.OK {
		t.Fatalf("Spoil(%v): %d", ref.At, e)
	}
}

// tellsAsGathered fails if Rows does not answer the error of the first column that has one, or the rows.
func tellsAsGathered(t *testing.T, h held, cols []int, l poslist.List) {
	t.Helper()
	for _, col := range cols {
		c, _ := column.Open(h.d, h.s.Kinds[col], h.s.Cols[col])
		if _, e := c.Gather(l); e != api.OK {
			rowsNone(t, h.r, cols, l, e)
			return
		}
	}
	tells(t, h.r, h.rows, cols, l)
}

// Each block of each column is turned: it is told where it is read, and there alone.
func TestSpoiledBlocks(t *testing.T) {
	s := stir(40)
	kinds := []int{api.Int, api.Text, api.Int}
	rows := s.rows(kinds, 150, 30)
	found := 0
	for col := range kinds {
		for k := range 3 {
			for _, ahead := range []bool{false, true} {
				h := hold(t, rows, kinds, 2)
				h.spoil(t, h.s.Cols[col][k])
				if ahead {
					h.r = h.opens(t, h.s)
				}
				for _, places := range append(chosen(150, s), where(150, func(at int) bool { return at/most != k })) {
					l := one(t, places...)
					for own := range kinds {
						for _, q := range tests(num(0), txt(word(9))) {
							likeColumn(t, h.ground, h.r, h.s, own, q, l)
						}
					}
					for _, cols := range [][]int{nil, {col}, {0, 1}, {1, 2}, {2, 0}, {2, 1, 0}, {col, col}} {
						tellsAsGathered(t, h, cols, l)
					}
				}
				for _, prefix := range prefixes(h.rows, kinds, 2, s) {
					span, e := h.r.Seek(prefix)
					switch {
					case e == api.ErrCorrupt && span == (api.Span{}):
						found++
					case e != api.OK || span != sought(h.rows, prefix):
						t.Fatalf("Seek(%v) with a block that is spoiled: %v, %d", prefix, span, e)
					}
				}
				seeksNone(t, h.r, rows[0], api.ErrArg)
			}
		}
	}
	if found == 0 {
		t.Error("Seek never told that a block is corrupt")
	}
}

// All blocks of the keys are turned: what they alone can tell is not told.
func TestSeekInSpoiledBlocks(t *testing.T) {
	var rows []api.Row
	for k := range 150 {
		rows = append(rows, nums(2*k, k))
	}
	h := hold(t, rows, []int{api.Int, api.Int}, 1)
	for _, ref := range h.s.Cols[0] {
		h.spoil(t, ref)
	}
	for k := range 150 {
		if k%most > 0 && k%most < most-1 && k < 149 {
			seeksNone(t, h.r, nums(2*k), api.ErrCorrupt)
			seeksNone(t, h.r, nums(2*k+1), api.ErrCorrupt)
		}
	}
	seeks(t, h.r, h.rows, nil)
}

// The error of the first of the columns that has one.
func TestRowsOfSpoiledColumns(t *testing.T) {
	s := stir(41)
	kinds := []int{api.Int, api.Text, api.Int}
	h := hold(t, s.rows(kinds, 100, 30), kinds, 0)
	h.spoil(t, h.s.Cols[1][1])
	all, first := one(t, below(100)...), one(t, below(64)...)
	for _, cols := range [][]int{{1}, {0, 1}, {1, 0}, {0, 2, 1}, {1, 1}} {
		rowsNone(t, h.r, cols, all, api.ErrCorrupt)
		tells(t, h.r, h.rows, cols, first)
		rowsNone(t, h.r, append(cols, 3), all, api.ErrArg)
		rowsNone(t, h.r, cols, one(t, below(101)...), api.ErrNone)
	}
	tells(t, h.r, h.rows, []int{0, 2}, all)
	tells(t, h.r, h.rows, nil, all)
	// A column that is corrupt ahead of one that the device does not have power for: the first one is asked first.
	turnedOff(t, h.d)
	rowsNone(t, h.r, []int{0, 1}, all, api.ErrOff)
	rowsNone(t, h.r, []int{1, 0}, first, api.ErrOff)
	tells(t, h.r, h.rows, nil, all)
	tells(t, h.r, h.rows, []int{0, 1}, poslist.List{})
}

// The power is off, ahead of Open and behind it: told where a block is read, and there alone.
func TestWithoutPower(t *testing.T) {
	s := stir(42)
	kinds := []int{api.Int, api.Text}
	h := hold(t, s.rows(kinds, 150, 30), kinds, 2)
	turnedOff(t, h.d)
	after := held{h.ground, h.opens(t, h.s), h.s, h.rows}
	for _, h := range []held{h, after} {
		for _, places := range chosen(150, s) {
			l := one(t, places...)
			for col := range kinds {
				for _, q := range append(tests(num(0), txt(word(9)), num(great)), noTests()...) {
					likeColumn(t, h.ground, h.r, h.s, col, q, l)
				}
			}
			for _, cols := range [][]int{nil, {0}, {1, 0}} {
				tellsAsGathered(t, h, cols, l)
			}
		}
		if span, e := h.r.Seek(nil); span != (api.Span{Lo: 0, Hi: 150}) || e != api.OK {
			t.Errorf("Seek of all: %v, %d", span, e)
		}
		seeksNone(t, h.r, h.rows[70][:1], api.ErrOff)
		seeksNone(t, h.r, h.rows[70], api.ErrOff)
		seeksNone(t, h.r, api.Row{{Kind: 9}}, api.ErrArg)
		seeksNone(t, h.r, make(api.Row, 3), api.ErrArg)
		if h.r.Count() != 150 || h.r.Reads() != 0 {
			t.Errorf("without power: %d, %d", h.r.Count(), h.r.Reads())
		}
	}
	h.d.Crash(nil)
	tells(t, h.r, h.rows, []int{0, 1}, one(t, below(150)...))
	seeks(t, h.r, h.rows, h.rows[70])
	// Of no rows there is nothing to be read.
	none := hold(t, nil, kinds, 2)
	turnedOff(t, none.d)
	if span, e := none.r.Seek(h.rows[70]); span != (api.Span{}) || e != api.OK {
		t.Errorf("Seek among no rows: %v, %d", span, e)
	}
}

// Columns that do not rise, though Keys says so: each call ends, and spans are within the rows.
func TestSeekAmongRowsInNoOrder(t *testing.T) {
	s := stir(43)
	kinds := []int{api.Int, api.Text, api.Int}
	for _, count := range []int{1, 64, 65, 200} {
		g := made(t, 200)
		own := g.builds(t, s.rows(kinds, count, 20), kinds, 0)
		own.Keys = 3
		r := g.opens(t, own)
		for _, prefix := range prefixes(s.rows(kinds, 30, 20), kinds, 3, s) {
			if span, e := r.Seek(prefix); span.Lo < 0 || span.Lo > span.Hi || span.Hi > count || e != api.OK {
				t.Errorf("Seek(%v): %v, %d", prefix, span, e)
			}
		}
	}
}

// Se4

// The rows are those it was built of, as a bag, and in order, over blocks by each code and with numbers at the edges.
func TestRowsAreThoseItWasBuiltOf(t *testing.T) {
	s := stir(50)
	kinds := []int{api.Int, api.Text, api.Int}
	for _, count := range []int{1, 64, 130, 1000} {
		var rows []api.Row
		for range count {
			c := []api.Cell{num(least), num(great), num(s.below(1<<31) << 32), num(7), {}}[s.below(5)]
			text := []string{"", "\x00", xs(32), strings.Repeat("\xff", 32), word(s.below(9))}[s.below(5)]
			rows = append(rows, api.Row{c, txt(text), s.cell(api.Int, 1000)})
		}
		for keys := range 4 {
			h := hold(t, rows, kinds, keys)
			got, e := h.r.Rows([]int{0, 1, 2}, one(t, below(count)...))
			if e != api.OK || len(got) != count {
				t.Fatalf("Rows: %d of them, %d", len(got), e)
			}
			for k := 1; k < count; k++ {
				if stands(got[k-1], got[k], keys) > 0 {
					t.Fatalf("%v is ahead of %v", got[k-1], got[k])
				}
			}
			for k, n := range Order(rows, keys) {
				if !slices.Equal(got[k], rows[n]) {
					t.Fatalf("the row %d: %v, not %v", k, got[k], rows[n])
				}
			}
			for _, row := range []api.Row{rows[0], rows[count/2], rows[count-1]} {
				for length := range keys + 1 {
					seeks(t, h.r, h.rows, row[:length])
				}
			}
		}
	}
}

// Each row's own prefix, of each length, leads to a span that has it.
func TestSeekOfEachRow(t *testing.T) {
	kinds := []int{api.Int, api.Text}
	h := hold(t, stir(51).rows(kinds, 200, 12), kinds, 2)
	for k, row := range h.rows {
		for length := range 3 {
			span, e := h.r.Seek(row[:length])
			if k < span.Lo || k >= span.Hi || e != api.OK {
				t.Fatalf("Seek(%v): %v, %d, without %d", row[:length], span, e, k)
			}
			seeks(t, h.r, h.rows, row[:length])
		}
	}
}

// R1 to R4

// A reader that is nil, and one that Open did not give.
func TestReadersThatOpenDidNotGive(t *testing.T) {
	for _, r := range []*Reader{nil, {}, new(Reader)} {
		for range 2 {
			if r.Count() != 0 || r.Reads() != 0 {
				t.Errorf("%d, %d", r.Count(), r.Reads())
			}
			for _, places := range [][]int{nil, {0}, below(100), {bound - 1}} {
				for _, l := range listed(t, places) {
					for _, col := range append(noColumns(1), 0) {
						for _, q := range append(noTests(), isSome) {
							columnNone(t, r, col, q, l)
						}
						rowsNone(t, r, []int{col}, l, api.ErrArg)
					}
					rowsNone(t, r, nil, l, api.ErrArg)
					rowsNone(t, r, []int{}, l, api.ErrArg)
				}
			}
			for _, prefix := range []api.Row{nil, {}, nums(1), {{}}, {{Kind: 9}}} {
				seeksNone(t, r, prefix, api.ErrArg)
			}
		}
	}
}

// What lies behind the end of what is handed in is not read, and stays.
func TestArgumentsAreReadToTheirEnd(t *testing.T) {
	s := stir(60)
	kinds := []int{api.Int, api.Text, 9, 9}
	rows := append(s.rows(kinds[:2], 70, 20), api.Row{{Kind: 9}}, nil)
	for k := range 70 {
		rows[k] = append(rows[k], api.Cell{Kind: 9})[:2]
	}
	was := rowsCopied(rows)
	g := made(t, 60)
	own := g.builds(t, rows[:70], kinds[:2], 2)
	if !same(rows, was) || !slices.Equal(kinds, []int{api.Int, api.Text, 9, 9}) || rows[3][:3][2].Kind != 9 {
		t.Errorf("what lies behind the ends changed")
	}
	if got := Order(rows[:70], 2); !slices.Equal(got, numbered(rows[:70], 2)) {
		t.Errorf("Order: %v", got)
	}
	room := copied(own)
	room.Kinds = append(room.Kinds, 9)[:2]
	room.Cols = append(room.Cols, []api.Ref{{}})[:2]
	for k := range room.Cols {
		room.Cols[k] = append(room.Cols[k], api.Ref{})[:2]
	}
	mayBe(t, room, true)
	r := g.opens(t, room)
	cols := []int{1, 0, 9, -1}
	tells(t, r, ordered(rows[:70], 2), cols[:2], one(t, below(70)...))
	prefix := append(slices.Clone(rows[9]), api.Cell{Kind: 9}, api.Cell{Kind: 9})
	seeks(t, r, ordered(rows[:70], 2), prefix[:2])
	if !slices.Equal(cols, []int{1, 0, 9, -1}) || prefix[2].Kind != 9 || room.Cols[:3][2][0] != (api.Ref{}) {
		t.Errorf("what lies behind the ends changed")
	}
	if e := Free(g.m, room); e != api.OK || g.m.Left() != 60 {
		t.Errorf("Free: %d, %d left", e, g.m.Left())
	}
}

// A reader stays as it was when the segment that it was opened with is changed, and the rows and kinds that it was built of; so does the segment.
func TestReadersStay(t *testing.T) {
	s := stir(61)
	kinds := []int{api.Int, api.Text}
	rows := s.rows(kinds, 100, 20)
	want := ordered(rowsCopied(rows), 2)
	g := made(t, 60)
	own := g.builds(t, rows, kinds, 2)
	kept := copied(own)
	for k := range rows {
		clear(rows[k])
	}
	kinds[0], kinds[1] = 9, 9
	if !alike(own, kept) {
		t.Errorf("the segment changed with what it was built of: %v, not %v", own, kept)
	}
	r := g.opens(t, own)
	own.Kinds[0] = api.Text
	for _, refs := range own.Cols {
		clear(refs)
	}
	own.Cols[0], own.Cols[1] = nil, nil
	all := one(t, below(100)...)
	tells(t, r, want, []int{0, 1}, all)
	seeks(t, r, want, want[70])
	if r.Count() != 100 || r.Zone(0).Count != 100 || r.Zone(1).Count != 100 {
		t.Errorf("the reader changed with its segment: %d, %v, %v", r.Count(), r.Zone(0), r.Zone(1))
	}
	for col := range kinds {
		likeColumn(t, g, r, kept, col, asked(api.TestLt, num(0)), all)
	}
}

// What was answered is new memory: changing it, or growing one of its lists, changes nothing else.
func TestAnswersAreNewMemory(t *testing.T) {
	s := stir(62)
	kinds := []int{api.Int, api.Text}
	rows := s.rows(kinds, 100, 20)
	h := hold(t, rows, kinds, 2)
	all := one(t, below(100)...)
	first, _ := h.r.Rows([]int{0, 1}, all)
	second, _ := h.r.Rows([]int{0, 1}, all)
	for k := range second {
		_ = append(second[k], num(99))
		clear(second[k])
	}
	if !same(first, h.rows) {
		t.Errorf("what was answered changed")
	}
	for k := range first {
		for range 9 {
			first[k] = append(first[k], num(99))
		}
	}
	for k := range first {
		if !slices.Equal(first[k][:2], h.rows[k]) {
			t.Fatalf("the row %d changed when others grew: %v", k, first[k])
		}
	}
	cells, _ := h.r.Gather(0, all)
	clear(cells)
	tells(t, h.r, h.rows, []int{0, 1}, all)
	numbers := Order(rows, 2)
	clear(numbers)
	orders(t, rows, 2)
	// No two columns of a segment share memory.
	g := made(t, 60)
	own := g.builds(t, rows, kinds, 2)
	kept := copied(own)
	own.Cols[0] = append(own.Cols[0], told(0, 1, 1))
	_ = append(own.Cols[0][:1], told(0, 1, 1), told(0, 1, 1), told(0, 1, 1))
	own.Cols[0] = kept.Cols[0]
	if !alike(own, kept) {
		t.Errorf("a column changed when another one grew: %v, not %v", own, kept)
	}
}

// Calls that are refused change nothing, reading changes nothing, and what is asked twice is answered twice.
func TestReadingChangesNothing(t *testing.T) {
	s := stir(63)
	kinds := []int{api.Int, api.Text}
	h := hold(t, s.rows(kinds, 100, 20), kinds, 2)
	was := h.seen()
	h.d.Fuse(0)
	all := one(t, below(100)...)
	for range 3 {
		rowsNone(t, h.r, []int{2}, all, api.ErrArg)
		rowsNone(t, h.r, []int{0}, one(t, 100), api.ErrNone)
		seeksNone(t, h.r, make(api.Row, 3), api.ErrArg)
		columnNone(t, h.r, -1, isSome, all)
		tells(t, h.r, h.rows, []int{1, 0}, all)
		seeks(t, h.r, h.rows, h.rows[64][:1])
		if e := Check(h.s); e != api.OK {
			t.Errorf("Check: %d", e)
		}
		h.opens(t, h.s)
		if e := Free(nil, h.s); e != api.ErrArg {
			t.Errorf("Free without a map: %d", e)
		}
	}
	h.stays(t, was, "reading")
}
