package store

import (
	"fmt"
	"peristyle/api"
	"peristyle/poslist"
	"slices"
	"testing"
)

// St3: Insert, Delete, Move

func TestInsert(t *testing.T) {
	p := made(t, 4096, creates("t", two()...), creates("u", two()...))
	for _, count := range []int{0, 1, 2, 63, 64} {
		p.do(inserts("t", pairs(count, count)...))
		p.same("Insert")
		p.do(advances())
	}
	p.do(inserts("t", []api.Row{}...), call{"Insert nil", func(s *Store) api.Errno { return s.Insert("t", nil) }, func(m *model) api.Errno { return api.OK }})
	p.same("Insert")
	for _, count := range []int{65, 66, 128, 5000} {
		p.refuses(api.ErrLimit, inserts("t", pairs(0, count)...))
		p.refuses(api.ErrNone, inserts("nobody", pairs(0, count)...))
		p.refuses(api.ErrArg, inserts("t", append(pairs(0, count), nil)...))
	}
	for _, name := range []string{"", "T", "nobody", xs(17)} {
		p.refuses(api.ErrNone, inserts(name))
		p.refuses(api.ErrNone, inserts(name, nil, nil))
	}
	p.reopen()
	p.do(inserts("u", pairs(0, 64)...), moves("u"), inserts("u", pairs(0, 64)...))
	p.same("Insert")
	p.reopen()
}

// badRows fit not in columns a, a number, and b, a text that may be null.
func badRows() []api.Row {
	var l []api.Row
	for _, c := range []api.Cell{{}, txt("a"), txt(""), {N: 1}, {S: "a"}, {Kind: api.Int, S: "a"}, {Kind: 3}, {Kind: -1}, {Kind: 257}, {Kind: 1<<32 + 1}, {Kind: least}} {
		l = append(l, api.Row{c, txt("b")})
	}
	for _, c := range []api.Cell{num(0), num(7), txt(xs(33)), txt(xs(1000)), {N: 1}, {S: "a"}, {Kind: api.Text, N: 1}, {Kind: api.Text, N: 1, S: "a"}, {Kind: 3}, {Kind: -1}, {Kind: 258}, {Kind: great}} {
		l = append(l, api.Row{num(1), c})
	}
	return append(l, nil, api.Row{}, nums(1), api.Row{num(1), txt("b"), {}}, api.Row{num(1), txt("b"), num(1)}, make(api.Row, 2), make(api.Row, 300))
}

func TestInsertOfRowsThatDoNotFit(t *testing.T) {
	p := made(t, 2000, creates("t", two()...), inserts("t", pairs(0, 3)...), moves("t"), inserts("t", pairs(3, 3)...))
	for _, bad := range badRows() {
		p.refuses(api.ErrArg, inserts("t", bad))
		for _, at := range []int{0, 3, 6} {
			p.refuses(api.ErrArg, inserts("t", slices.Insert(pairs(0, 6), at, bad)...))
		}
		p.refuses(api.ErrNone, inserts("nobody", bad))
		p.refuses(api.ErrArg, inserts("t", slices.Insert(pairs(0, 64), 64, bad)...))
	}
	// Of a column that may be null, and one that may not; texts as long as can be; numbers as far apart.
	p.do(inserts("t", api.Row{num(least), {}}, api.Row{num(great), txt(xs(32))}, api.Row{num(0), txt("")}, api.Row{num(0), txt("\x00\xff'")}))
	p.same("Insert")
	p.do(moves("t"))
	p.reopen()
}

// grown lets a table have so many rows, laid but for the last ones.
func (p *pair) grown(table string, count, last int) {
	p.t.Helper()
	for k := 0; k < count; k += 64 {
		p.do(inserts(table, ints(k, min(64, count-k))...))
		if k%448 == 0 || k+last >= count && k+last < count+64 {
			p.do(moves(table))
		}
	}
}

// As many rows as a table may have, and one more.
func TestATableOfAllRows(t *testing.T) {
	for _, last := range []int{0, 200} {
		p := made(t, 4096, creates("t", intCol("a")), creates("u", intCol("a")))
		p.grown("t", 4095, last)
		p.refuses(api.ErrLimit, inserts("t", ints(0, 2)...))
		p.do(inserts("t"), inserts("t", ints(4095, 1)...))
		p.same("Insert")
		p.refuses(api.ErrLimit, inserts("t", ints(0, 1)...))
		p.refuses(api.ErrLimit, inserts("t", ints(0, 64)...))
		p.refuses(api.ErrArg, inserts("t", txtRow("a")))
		p.do(inserts("t"), inserts("u", ints(0, 64)...), advances())
		p.do(deletesIn("t", 0, from(4000, 4096)), moves("t"), adds("t", "by", 1, 0))
		p.refuses(api.ErrLimit, inserts("t", ints(0, 1)...))
		p.refuses(api.ErrNone, deletes("t", 4095))
		p.refuses(api.ErrNone, deletes("t", 4096))
		// Rows that went stay till no epoch sees them that can be asked.
		p.do(raises(2), moves("t"), inserts("t", ints(0, 64)...))
		p.do(inserts("t", ints(0, 32)...))
		p.refuses(api.ErrLimit, inserts("t", ints(0, 1)...))
		p.reopen()
	}
}

func txtRow(s string) api.Row { return api.Row{txt(s)} }

// 511, 512 and 513 rows that are not laid.
func TestRowsThatAreNotLaid(t *testing.T) {
	p := made(t, 4096, creates("t", intCol("a")), creates("u", intCol("a")), inserts("t", ints(0, 40)...), moves("t"))
	for k := range 7 {
		p.do(inserts("t", ints(64*k, 64)...))
	}
	p.do(inserts("t", ints(448, 63)...))
	p.refuses(api.ErrFull, inserts("t", ints(0, 2)...))
	p.refuses(api.ErrFull, inserts("t", ints(0, 64)...))
	p.refuses(api.ErrLimit, inserts("t", ints(0, 65)...))
	p.refuses(api.ErrArg, inserts("t", append(ints(0, 9), nil)...))
	p.do(inserts("t", ints(511, 1)...), inserts("t"))
	p.same("Insert")
	p.refuses(api.ErrFull, inserts("t", ints(0, 1)...))
	// Rows that went need room, too, and laid ones none.
	p.do(deletes("t", from(40, 552)...), inserts("u", ints(0, 1)...))
	p.refuses(api.ErrFull, inserts("t", ints(0, 1)...))
	p.reopen()
	p.refuses(api.ErrFull, inserts("t", ints(0, 1)...))
	p.do(advances(), moves("t"), inserts("t", ints(0, 64)...), inserts("u", ints(0, 64)...))
	p.same("Move")
	p.reopen()
}

// some are numbers that a list may have, of a table of laid rows, and others.
func some(laid, rest int) [][]int {
	all := laid + rest
	return [][]int{nil, {0}, {all - 1}, {laid - 1}, {laid}, {laid - 1, laid}, from(0, laid), from(laid, all), from(0, all), {0, all - 1}, from(laid-1, laid+2)}
}

func TestDelete(t *testing.T) {
	for _, form := range []int{0, api.FormSpans, api.FormWords, api.FormPlaces} {
		for k := range some(5, 4) {
			for _, later := range []int{0, 1, 3} {
				p := made(t, 400, creates("t", two()...), inserts("t", pairs(0, 5)...), moves("t"), inserts("t", pairs(5, 4)...))
				for range later {
					p.do(advances())
				}
				l := some(5, 4)[k]
				p.do(deletesIn("t", form, l))
				p.same("Delete")
				if len(l) > 0 {
					p.refuses(api.ErrNone, deletesIn("t", form, l))
					p.refuses(api.ErrNone, deletesIn("t", form, l[:1]))
					p.refuses(api.ErrNone, deletesIn("t", form, l[len(l)-1:]))
				}
				p.do(deletesIn("t", form, nil), advances())
				p.reopen()
				p.do(moves("t"))
				p.same("Move")
			}
		}
	}
}

func TestDeleteOfNoRows(t *testing.T) {
	p := made(t, 400, creates("t", two()...), creates("empty", two()...), inserts("t", pairs(0, 5)...), moves("t"), inserts("t", pairs(5, 4)...), deletes("t", 2, 6))
	for _, form := range []int{0, api.FormSpans, api.FormWords, api.FormPlaces} {
		for _, l := range [][]int{{9}, {0, 9}, {8, 9}, {10}, {4095}, {4096}, {65535}, {0, 65535}, from(0, 10), from(9, 5000), from(0, places), {2}, {6}, {1, 2}, {2, 3}, {5, 6}, {0, 2, 8}, {4, 6}} {
			p.refuses(api.ErrNone, deletesIn("t", form, l))
			p.refuses(api.ErrNone, deletesIn("nobody", form, l))
			p.refuses(api.ErrNone, deletesIn("empty", form, l))
		}
		p.refuses(api.ErrNone, deletesIn("nobody", form, nil))
		p.do(deletesIn("empty", form, nil), deletesIn("t", form, nil))
	}
	p.reopen()
	p.do(deletes("t", 0, 1, 3, 4, 5, 7, 8))
	p.refuses(api.ErrNone, deletes("t", 0))
	p.do(deletes("t"))
	p.same("Delete")
}

// Rows may go in the epoch in which they came: no epoch sees them.
func TestRowsThatGoAtOnce(t *testing.T) {
	p := made(t, 400, creates("t", two()...), inserts("t", pairs(0, 4)...), deletes("t", 1, 2), moves("t"))
	p.same("Move")
	if l, _, _ := p.s.Lives("t"); len(l) != 2 {
		t.Error(l)
	}
	p.do(advances(), inserts("t", pairs(4, 4)...), deletes("t", 0, 3), moves("t"))
	if l, _, _ := p.s.Lives("t"); len(l) != 6 {
		t.Error(l)
	}
	p.same("Move")
	for e := range 4 {
		v, _ := p.s.View("t")
		l, errno := v.Visible(0, e)
		if want := []int{0, 2, 4 - 0, 0}[e]; e < 2 && (errno != api.OK || l.Count() != want) {
			t.Error(e, l.Count(), errno)
		}
	}
	p.reopen()
}

func TestMove(t *testing.T) {
	p := made(t, 2000, creates("t", two()...), moves("t"), moves("t"), adds("t", "by_a", 1, 0), adds("t", "by_ba", 2, 1, 0), moves("t"))
	p.same("Move of no rows")
	p.refuses(api.ErrNone, moves("nobody"))
	p.refuses(api.ErrNone, moves(""))
	p.do(inserts("t", pairs(0, 20)...), moves("t"), moves("t"))
	p.same("Move twice")
	p.do(advances(), advances(), advances(), deletes("t", 3, 4), advances(), deletes("t", 5), inserts("t", pairs(20, 5)...), advances(), deletes("t", 21), advances())
	for low := 1; low <= 7; low++ {
		p.do(raises(low), moves("t"))
		p.same(fmt.Sprint("Move, low ", low))
		p.do(inserts("t", pairs(low, 2)...))
		l, _, _ := p.s.Lives("t")
		last := len(l) - 1
		p.refuses(api.ErrNone, deletes("t", last+1))
		stay := p.m.alive(0)
		p.do(deletes("t", stay[0], last))
		p.same("Delete")
		p.reopen()
	}
	// With all rows left out.
	p.do(deletes("t", p.m.alive(0)...), advances(), raises(8), moves("t"))
	if l, laid, errno := p.s.Lives("t"); len(l) != 0 || laid != 0 || errno != api.OK {
		t.Error(l, laid, errno)
	}
	p.refuses(api.ErrNone, deletes("t", 0))
	p.do(inserts("t", pairs(0, 3)...), moves("t"))
	p.same("Move")
	p.reopen()
}

// Gone one below Low, at it, and one above.
func TestMoveAroundLow(t *testing.T) {
	p := made(t, 400, creates("t", intCol("a")), inserts("t", ints(0, 8)...), moves("t"))
	for k := range 4 {
		p.do(advances(), inserts("t", ints(10+k, 1)...), deletes("t", k, 8+k))
	}
	// Rows 0 to 3, and 8 to 11, went in 2 to 5.
	p.do(raises(3), moves("t"))
	p.same("Move")
	l, laid, _ := p.s.Lives("t")
	if laid != 8 || l[0].Row[0] != num(2) || l[0].Gone != 4 || l[6].Row[0] != num(12) {
		t.Error(l, laid)
	}
	p.reopen()
}

// Rows of which what went is left out keep their order, and their numbers run on.
func TestNumbersBehindAMove(t *testing.T) {
	p := made(t, 600, creates("t", intCol("a")), adds("t", "down", 1, 0), inserts("t", nums(5), nums(3), nums(9)), moves("t"), inserts("t", nums(1), nums(7), nums(2)), deletes("t", 1, 4))
	p.do(moves("t"))
	l, laid, _ := p.s.Lives("t")
	var got []int
	for _, life := range l {
		got = append(got, life.Row[0].N)
	}
	if laid != 4 || !slices.Equal(got, []int{5, 9, 1, 2}) {
		t.Error(got, laid)
	}
	v, _ := p.s.View("t")
	if !slices.Equal(v.Order(1), []int{2, 3, 0, 1}) {
		t.Error(v.Order(1))
	}
	p.do(deletes("t", 2), inserts("t", nums(4)), deletes("t", 4))
	p.same("Delete")
	p.reopen()
}

// Of a table with a block that is spoilt Move and Add are refused, and change nothing.
func TestMoveAndAddOfSpoiltRows(t *testing.T) {
	p := made(t, 400, creates("t", two()...), inserts("t", pairs(0, 70)[:64]...), inserts("t", pairs(64, 6)...), moves("t"), creates("u", two()...), inserts("u", pairs(0, 5)...), moves("u"), inserts("t", pairs(70, 3)...))
	for _, ref := range slices.Concat(p.s.contents[0].columns()...) {
		own, _ := p.d.Read(ref.At.First)
		p.d.Spoil(ref.At.First, bitTurned(own, 9))
		for range 2 {
			for _, c := range []call{moves("t"), adds("t", "p", 1, 0), adds("t", "p", 0, 1)} {
				if errno := c.on(p.s); errno != api.ErrCorrupt {
					t.Error(c.name, errno)
				}
			}
			if l, laid, errno := p.s.Lives("t"); l != nil || laid != 0 || errno != api.ErrCorrupt {
				t.Error(laid, errno)
			}
		}
		p.refusesBeside(moves("nobody"), adds("t", "super", 0, 0), adds("t", "p", 0, 5))
		p.d.Spoil(ref.At.First, own)
		p.same("a block that is right again")
		p.do(moves("u"), deletes("t", len(p.m.lives[0])-1), inserts("t", pairs(1, 1)...))
		p.same("Move of another table")
	}
	p.reopen()
}

// refusesBeside does calls that are refused for what they ask.
func (p *pair) refusesBeside(calls ...call) {
	p.t.Helper()
	for _, c := range calls {
		if got, want := c.on(p.s), c.in(p.m.copied()); got != want || got == api.OK {
			p.t.Errorf("%s: %d, not %d", c.name, got, want)
		}
	}
}

// What is handed in is neither kept nor changed, nor read beyond its end.
func TestRowsAreNotKept(t *testing.T) {
	p := made(t, 400, creates("t", two()...))
	rows := slices.Grow(pairs(0, 4), 6)
	behind := rows[:8]
	for k := 4; k < 8; k++ {
		behind[k] = nums(7)
	}
	wide := slices.Grow(pairs(9, 1)[0], 3)
	wide[:4][2], wide[:4][3] = num(8), num(9)
	rows[2] = wide
	if errno := p.s.Insert("t", rows); errno != api.OK {
		t.Fatal(errno)
	}
	want := pairs(0, 4)
	want[2] = pairs(9, 1)[0]
	p.m.insert("t", want)
	if !sameRows(rows, want) || !sameRows(behind[4:], []api.Row{nums(7), nums(7), nums(7), nums(7)}) || wide[:4][3] != num(9) {
		t.Error(behind)
	}
	for k := range rows {
		for c := range rows[k] {
			rows[k][c] = num(99)
		}
		rows[k] = nil
	}
	p.same("changes in rows")
	p.reopen()
	l, _, _ := p.s.Lives("t")
	l = append(l, api.Live{})
	for k := range l {
		for c := range l[k].Row {
			l[k].Row[c] = num(99)
		}
		l[k] = api.Live{Born: 99}
	}
	p.same("changes in lives")
	p.do(moves("t"), inserts("t", pairs(5, 2)...))
	l, _, _ = p.s.Lives("t")
	for k := range l {
		_ = append(l[k].Row, num(77))
		for c := range l[k].Row {
			l[k].Row[c] = num(99)
		}
	}
	p.same("changes in lives")
}

// No two rows of an answer share cells.
func TestRowsOfAnAnswerStandByThemselves(t *testing.T) {
	p := made(t, 400, creates("t", two()...), inserts("t", pairs(0, 5)...), moves("t"), inserts("t", pairs(5, 5)...))
	l, _, _ := p.s.Lives("t")
	for k := range l {
		l[k].Row[0] = num(1000 + k)
		for n := range l {
			if n > k && !slices.Equal(l[n].Row, pairs(n, 1)[0]) {
				t.Fatal(k, n, l[n])
			}
		}
	}
}

func TestNilAndTheEmptyList(t *testing.T) {
	a, b := made(t, 200), made(t, 200)
	for _, s := range []*Store{a.s, b.s} {
		if s.Create("t", nil) != api.ErrArg || s.Create("t", []api.Column{}) != api.ErrArg || s.Create("t", two()) != api.OK {
			t.Error("Create")
		}
		if s.Add("t", api.Projection{Name: "p"}) != api.ErrArg || s.Add("t", api.Projection{Name: "p", Cols: []int{}}) != api.ErrArg {
			t.Error("Add")
		}
		if s.Insert("t", []api.Row{nil}) != api.ErrArg || s.Insert("t", []api.Row{{}}) != api.ErrArg {
			t.Error("Insert of rows without cells")
		}
	}
	empty, _ := poslist.From([]int{})
	for k, errno := range []api.Errno{a.s.Insert("t", nil), b.s.Insert("t", []api.Row{}), a.s.Delete("t", poslist.List{}), b.s.Delete("t", empty)} {
		if errno != api.OK {
			t.Error(k, errno)
		}
	}
	sameDevices(t, a.d, b.d)
}
