package store

import (
	"fmt"
	"peristyle/api"
	"peristyle/device"
	"peristyle/poslist"
	"slices"
	"testing"
)

// R2 to R4: what is refused, and what answers hang on

// sameDevices tells whether two devices have the same bytes.
func sameDevices(t *testing.T, a, b *device.Device) {
	t.Helper()
	for at := range max(a.Size(), b.Size()) {
		x, e := a.Read(at)
		y, f := b.Read(at)
		if x != y || e != f {
			t.Fatalf("block %d: %q, not %q", at, x, y)
		}
	}
}

// Any calls, held against the model, behind each other and behind crashes.
func TestAnyCalls(t *testing.T) {
	for seed := range 8 {
		t.Run(fmt.Sprint(seed), func(t *testing.T) {
			t.Parallel()
			r := stir(400 + seed)
			p := made(t, 4096)
			b := limits{8, 6, 8, 300, seed == 7}
			for k := range 300 {
				c := r.call(p.m, b)
				p.try(c)
				if k%12 == 0 {
					p.same(c.name)
				}
				if k%60 == 59 {
					p.reopen()
				}
			}
		})
	}
}

// Calls that are refused, in any state, change nothing, and write nothing.
func TestWhatIsRefused(t *testing.T) {
	p := made(t, 2000)
	for _, c := range scene() {
		p.do(c)
		for _, wrong := range []call{
			creates("t", nil...), creates("T", two()...), drops("nobody"), adds("t", "p", 3, 0), adds("nobody", "p", 0, 0), removes("t", "nobody"), removes("u", "super"),
			inserts("t", nums(1)), inserts("nobody", nums(1)), inserts("t", pairs(0, 65)...), deletes("t", 65535), deletes("nobody"), raises(0), raises(99), moves("nobody"),
		} {
			ahead := copyOf(t, p.d)
			if p.try(wrong) == api.OK {
				t.Fatal(wrong.name)
			}
			sameDevices(t, ahead, p.d)
		}
		p.same("what was refused")
	}
}

// The same calls lead to the same, on two devices, by two stores beside one another.
func TestTwoDevices(t *testing.T) {
	r := stir(12)
	a, b := made(t, 500), made(t, 500)
	in := limits{5, 4, 4, 120, false}
	for k := range 300 {
		c := r.call(a.m, in)
		if x, y := a.try(c), b.try(c); x != y {
			t.Fatal(c.name, x, y)
		}
		if k%20 == 0 {
			sameDevices(t, a.d, b.d)
			a.same(c.name)
			b.same(c.name)
		}
		if k%70 == 69 {
			a.reopen()
			b.reopen()
		}
	}
}

// What is read changes nothing.
func TestReadingChangesNothing(t *testing.T) {
	p := made(t, 400, scene()...)
	ahead := copyOf(t, p.d)
	for range 3 {
		p.same("reading")
		for _, table := range p.s.Tables() {
			p.keep(table.Name).ends(t)
		}
	}
	sameDevices(t, ahead, p.d)
	q := made(t, 400, scene()...)
	p.do(inserts("t", pairs(1, 2)...), moves("t"))
	q.do(inserts("t", pairs(1, 2)...), moves("t"))
	sameDevices(t, p.d, q.d)
}

// Lists that are handed in, in each form, are the same behind the call.
func TestListsStayAsTheyWere(t *testing.T) {
	for k := range 4 {
		p := made(t, 400, scene()...)
		l := listed(t, []int{3, 5, 6})[k]
		ahead, form := slices.Collect(l.Places()), l.Form()
		for range 2 {
			p.s.Delete("t", l)
			p.s.Delete("nobody", l)
			if l.Form() != form || !slices.Equal(slices.Collect(l.Places()), ahead) {
				t.Error(k, l.Spans())
			}
		}
		p.m.delete("t", ahead)
		p.same("Delete")
	}
}

// Arguments that are anything: each call ends.
func TestAnyArguments(t *testing.T) {
	r := stir(13)
	names := []string{"", "t", "u", "empty", "nobody", "super", "by_b", "one", "T", xs(16), xs(17), xs(5000), "\x00", "\xff\xfe"}
	numbers := []int{least, least + 1, -2, -1, 0, 1, 2, 3, 4, 5, 8, 9, 63, 64, 255, 4095, 4096, 65535, 65536, 1 << 31, 1 << 32, 1 << 40, great - 1, great}
	cells := []api.Cell{{}, num(1), num(least), txt(""), txt("a"), txt(xs(32)), txt(xs(33)), {N: 1}, {S: "a"}, {Kind: 3}, {Kind: -1}, {Kind: great}, {Kind: 1, S: "a"}, {Kind: 2, N: 1}}
	p := made(t, 600, scene()...)
	for k := range 6000 {
		name, other := one(r, names), one(r, names)
		switch r.below(11) {
		case 0:
			var columns []api.Column
			for range r.below(11) {
				columns = append(columns, api.Column{Name: one(r, names), Kind: one(r, numbers), Null: r.below(2) == 0})
			}
			p.s.Create(name, columns)
		case 1:
			var cols []int
			for range r.below(5) {
				cols = append(cols, one(r, numbers))
			}
			p.s.Add(name, api.Projection{Name: other, Cols: cols, Keys: one(r, numbers)})
		case 2:
			p.s.Remove(name, other)
		case 3:
			var rows []api.Row
			for range r.below(70) {
				var row api.Row
				for range r.below(4) {
					row = append(row, one(r, cells))
				}
				rows = append(rows, row)
			}
			p.s.Insert(name, rows)
		case 4:
			var at []int
			for range r.below(4) {
				at = append(at, min(max(one(r, numbers), 0), 65535))
			}
			l, _ := poslist.From(at)
			p.s.Delete(name, l)
		case 5:
			p.s.Raise(one(r, numbers))
		case 6:
			p.s.Advance()
		case 7:
			p.s.Move(name)
		case 8:
			p.s.Lives(name)
		case 9:
			v, _ := p.s.View(name)
			n := one(r, numbers)
			v.Visible(n, one(r, numbers))
			v.Order(n)
			v.Reader(n)
			v.Table()
			v.Write()
		case 10:
			if r.below(40) == 0 {
				p.s.Drop(name)
				if name == "t" {
					p = made(t, 600, scene()...)
				}
			}
		}
		if k%500 == 0 {
			opened(t, p.d)
		}
	}
}
