package store

import (
	"fmt"
	"peristyle/api"
	"testing"
)

// St5: crashes

// choices are which of the writes that wait survive: none, all, single ones, all but one, any.
func choices(r *stirrer, waiting int) [][]int {
	all := from(0, waiting)
	l := [][]int{nil, all}
	for _, k := range mixed(r, all)[:min(waiting, 3)] {
		l = append(l, []int{k}, append(from(0, k), from(k+1, waiting)...))
	}
	if waiting > 0 {
		l = append(l, []int{0}, []int{waiting - 1}, from(0, waiting-1), mixed(r, all)[:r.below(waiting)], mixed(r, all)[:r.below(waiting)])
	}
	return l
}

// survives opens a device behind a crash, and tells which of two models it is: what was sure ahead, or, whole, what is behind.
func (p *pair) survives(what string, ahead, behind *model) {
	p.t.Helper()
	p.s = opened(p.t, p.d)
	p.m = ahead
	if differs(p.s, ahead) != "" {
		p.m = behind
	}
	if d := differs(p.s, p.m); d != "" {
		p.t.Fatalf("behind a crash within %s: %s; and of what was ahead: %s", what, d, differs(p.s, ahead))
	}
	// Opened again, and broken off again, it is the same.
	p.d.Crash(nil)
	p.s = opened(p.t, p.d)
	p.same("a crash within " + what)
}

// behindScene are calls that write, each of which the scene may be followed by.
func behindScene() []call {
	r := stir(3)
	return []call{
		creates("new", three()...), drops("t"), drops("empty"), adds("t", "p", 2, 1, 0), adds("u", "p", 1, 2), adds("empty", "p", 0, 0), removes("t", "by_b"), removes("t", "one"), advances(), raises(4),
		inserts("t", pairs(50, 1)...), inserts("t", pairs(50, 40)...), inserts("u", r.rows([]api.Column{textCol("c"), nullCol("d", api.Int), intCol("e")}, 20, true)...), inserts("empty"),
		deletes("t", 3), deletes("t", 3, 5, 10, 12), deletes("u", 1), moves("t"), moves("u"), moves("empty"),
	}
}

// broken is a store behind the scene; opened anew, if that is said, so that no journal was begun.
func broken(t *testing.T, anew bool) *pair {
	p := made(t, 260, scene()...)
	if anew {
		p.s = opened(t, p.d)
	}
	return p
}

func TestCrashWithinEachCall(t *testing.T) {
	for k, c := range behindScene() {
		for _, anew := range []bool{false, true} {
			t.Run(fmt.Sprint(k, anew), func(t *testing.T) {
				t.Parallel()
				r := stir(k)
				for n := 0; crashesAt(t, r, c, anew, n); n++ {
				}
			})
		}
	}
}

// crashesAt lets the power go off behind so many doings of a call, and tells whether it broke the call off.
func crashesAt(t *testing.T, r *stirrer, c call, anew bool, n int) bool {
	waiting := 0
	for k := 0; k == 0 || k < len(choices(stir(n), waiting)); k++ {
		p := broken(t, anew)
		behind := p.m.copied()
		c.in(behind)
		p.d.Fuse(n)
		errno := c.on(p.s)
		if errno == api.OK {
			p.d.Crash(nil)
			p.survives(c.name, behind, behind)
			return false
		}
		if errno != api.ErrOff {
			t.Fatalf("%s, fuse %d: %d", c.name, n, errno)
		}
		waiting = len(p.d.Waiting())
		if k == 0 {
			isShut(t, p)
		}
		p.d.Crash(choices(stir(n), waiting)[k])
		p.survives(c.name, p.m, behind)
		// It goes on: the same call again, as it is meant to be, and others.
		p.try(c)
		p.try(one(r, behindScene()))
		p.try(inserts("u", api.Row{txt("it"), {}, num(n)}))
		p.same("calls behind a crash")
	}
	return true
}

// Any calls, broken off by any fuses, with any writes kept, again and again.
func TestCrashesAmongAnyCalls(t *testing.T) {
	for seed := range 16 {
		t.Run(fmt.Sprint(seed), func(t *testing.T) {
			t.Parallel()
			r := stir(300 + seed)
			p := made(t, one(r, []int{100, 130, 300, 2000}))
			b := limits{4, 3, 4, 100, seed%4 == 3}
			crashes := 0
			for range 110 {
				p.d.Fuse(one(r, []int{-1, 0, 1, 2, 3, 5, r.below(20), r.below(60), r.below(400)}))
				for range 1 + r.below(12) {
					c := r.call(p.m, b)
					behind := p.m.copied()
					want := c.in(behind)
					got := c.on(p.s)
					if got == api.ErrOff {
						crashes++
						p.d.Crash(one(r, choices(r, len(p.d.Waiting()))))
						if want != api.OK {
							behind = p.m
						}
						p.survives(c.name, p.m, behind)
						break
					}
					switch {
					case got == api.ErrFull && want == api.OK && mayBeFull(p.d.Size(), p.m, behind):
					case got != want:
						t.Fatalf("%s: %d, not %d", c.name, got, want)
					case got == api.OK:
						p.m = behind
					}
				}
			}
			if crashes < 25 {
				t.Error(crashes, "crashes")
			}
		})
	}
}

// A crash within the first call of all, and the next ones.
func TestCrashAtTheBeginning(t *testing.T) {
	calls := []call{creates("t", two()...), inserts("t", pairs(0, 5)...), moves("t"), advances()}
	for count := range calls {
		for _, anew := range []bool{false, true} {
			for n := 0; ; n++ {
				off := 0
				for k := 0; k == 0 || k < len(choices(stir(n), off)); k++ {
					p := made(t, 100, calls[:count]...)
					if anew {
						p.s = opened(t, p.d)
					}
					behind := p.m.copied()
					calls[count].in(behind)
					p.d.Fuse(n)
					if calls[count].on(p.s) == api.OK {
						off = -1
						break
					}
					off = len(p.d.Waiting())
					p.d.Crash(choices(stir(n), off)[k])
					p.survives(calls[count].name, p.m, behind)
				}
				if off < 0 {
					break
				}
			}
		}
	}
}

// Records of as many parts, broken off one behind the other, never mingle.
func TestRecordsThatWereBrokenOff(t *testing.T) {
	r := stir(9)
	for range 300 {
		p := made(t, 300, creates("t", textCol("a")), advances())
		for range 4 {
			rows := r.rows([]api.Column{textCol("a")}, 7, true)
			behind := p.m.copied()
			behind.insert("t", rows)
			p.d.Fuse(r.below(5))
			errno := p.s.Insert("t", rows)
			if errno == api.OK {
				p.m = behind
			}
			p.d.Crash(one(r, choices(r, len(p.d.Waiting()))))
			p.survives("Insert", p.m, behind)
			if r.below(2) == 0 {
				p.do(advances())
			}
		}
	}
}

// Once a call was refused by ErrOff all others are, also where the device has power again.
func TestBehindErrOff(t *testing.T) {
	for _, c := range behindScene() {
		for _, power := range []bool{false, true} {
			p := broken(t, false)
			p.d.Fuse(0)
			if errno := c.on(p.s); errno != api.ErrOff {
				t.Fatal(c.name, errno)
			}
			isShut(t, p)
			if power {
				p.d.Crash(nil)
				isShut(t, p)
			}
			if p.d.Crash(nil); differs(opened(t, p.d), p.m) != "" {
				t.Error(c.name, differs(opened(t, p.d), p.m))
			}
			isShut(t, p)
		}
	}
}

// Move, Add and Remove change no rows that some epoch sees that can be asked.
func TestWhatIsSeenStays(t *testing.T) {
	r := stir(11)
	p := made(t, 2000)
	b := limits{3, 3, 3, 90, false}
	for range 600 {
		c := r.call(p.m, b)
		seen := map[string]string{}
		for k, table := range p.m.tables {
			for e := p.m.clock.Low; e <= p.m.clock.Now; e++ {
				seen[fmt.Sprint(table.Name, e)] = fmt.Sprint(seenRows(p.m.lives[k], e))
			}
		}
		p.try(c)
		if c.name[0] != 'M' && c.name[:2] != "Re" && c.name[:3] != "Add" {
			continue
		}
		for _, table := range p.s.Tables() {
			l, _, errno := p.s.Lives(table.Name)
			for e := p.m.clock.Low; e <= p.m.clock.Now; e++ {
				if want := seen[fmt.Sprint(table.Name, e)]; errno != api.OK || fmt.Sprint(seenRows(l, e)) != want {
					t.Fatalf("%s: in %d %v are seen, not %v", c.name, e, seenRows(l, e), want)
				}
			}
		}
	}
}
