package store

import (
	"fmt"
	"peristyle/api"
	"peristyle/journal"
	"peristyle/slots"
	"strings"
	"testing"
)

// St1 to St3, St5: slots of the greatest turns that layer 24 has

const theLast = 1 << 32 // turn of a slot

// toggle makes a table w, or takes it away: either is laid, so that nothing is left that was journaled.
func (p *pair) toggle() {
	p.t.Helper()
	if p.m.find("w") < 0 {
		p.do(creates("w", intCol("a")))
	} else {
		p.do(drops("w"))
	}
}

// turned lets the state be that of another turn, and opens the device anew.
func (p *pair) turned(turn int) {
	p.t.Helper()
	p.toggle()
	bytes, at, now, errno := slots.Read(p.d)
	if now%2 != turn%2 {
		// It lies elsewhere.
		p.toggle()
		bytes, at, now, errno = slots.Read(p.d)
	}
	if errno != api.OK || now%2 != turn%2 {
		p.t.Fatal(now, errno)
	}
	p.d.Spoil(turn%2, slots.Slot(at, turn, bytes))
	p.d.Spoil((turn+1)%2, slots.Slot(at, turn-1, bytes))
	p.s = opened(p.t, p.d)
	p.same("another turn")
}

// early are calls that leave records of the first turns in the journal's blocks, such as would be wrong if they came back.
func early() []call {
	l := []call{creates("t", two()...)}
	for k := range 6 {
		l = append(l, inserts("t", pairs(k, 1)...), deletes("t", k))
	}
	l = append(l, creates("u", three()...), inserts("u", triples(0, 3)...), advances(), inserts("u", triples(3, 2)...), adds("u", "q", 1, 1), inserts("u", triples(5, 2)...), raises(2), advances(), inserts("t", pairs(6, 5)...), moves("t"), inserts("t", pairs(11, 2)...))
	return append(l, adds("t", "by_b", 2, 1, 0), adds("t", "one", 0, 0))
}

// behindEarly are calls that write, each of which those may be followed by, and some that are refused.
func behindEarly() []call {
	return []call{
		inserts("t"), inserts("t", pairs(30, 2)...), deletes("t", 7), moves("t"), advances(), raises(2), creates("v", two()...), adds("t", "p", 2, 1, 0), removes("t", "one"), drops("u"),
		inserts("nobody"), inserts("t", nums(1)), deletes("t", 0), raises(99), adds("t", "by_b", 0, 0), removes("u", "super"), moves("nobody"), creates("t", two()...),
		inserts("t", pairs(40, 30)...), moves("u"), deletes("u"), advances(), advances(), advances(),
	}
}

func TestTheLastTurns(t *testing.T) {
	for _, blocks := range []int{260, 2000} {
		for back := range 5 {
			t.Run(fmt.Sprint(blocks, " blocks, ", back, " turns ahead"), func(t *testing.T) {
				t.Parallel()
				calls := behindEarly()
				for k := range calls {
					p := made(t, blocks, early()...)
					p.turned(theLast - back)
					for n := range 12 {
						c := calls[(k+n*(1+k%3))%len(calls)]
						if errno := p.try(c); errno == api.ErrFull {
							t.Fatal(c.name)
						}
						if n%3 == k%3 {
							p.same(c.name)
						}
						if n == 7 {
							p.reopen()
						}
					}
					p.reopen()
				}
			})
		}
	}
}

// Records come and go in all turns around the last one, and round again.
func TestRoundTheLastTurn(t *testing.T) {
	p := made(t, 300, early()...)
	for round := range 4 {
		p.turned(theLast - round)
		for k := range 14 {
			p.do(inserts("u", triples(k, 1)...), advances(), inserts("t", pairs(k, 2)...), deletes("t", p.m.alive(0)[0]))
			if k%2 == round%2 {
				p.do(moves("t"))
			}
			p.same("a turn")
			if k%5 == 3 {
				p.reopen()
			}
		}
		p.do(raises(p.m.clock.Now), moves("t"), moves("u"))
		if _, _, turn, errno := slots.Read(p.d); errno != api.OK || turn < 3 || turn > 40 {
			t.Error(turn, errno)
		}
	}
}

// Behind the last turn no part of a record is left of those ahead of it.
func TestTheJournalBehindTheLastTurn(t *testing.T) {
	p := made(t, 300, early()...)
	p.turned(theLast)
	records := regionsOf(300).journal
	if s, _ := p.d.Read(records.First); s == strings.Repeat("\x00", 128) {
		t.Fatal("no records of the first turns")
	}
	p.do(moves("t"))
	for k := range records.Count {
		if s, _ := p.d.Read(records.First + k); s != strings.Repeat("\x00", 128) {
			t.Errorf("block %d: %q", k, s)
		}
	}
	p.do(advances(), inserts("t", pairs(3, 3)...))
	p.reopen()
}

// A crash within each call of the last turn, and of that ahead of it, whatever survives.
func TestCrashWithinTheLastTurns(t *testing.T) {
	for k, c := range behindEarly() {
		if behind := made(t, 260, early()...).m; c.in(behind) != api.OK {
			continue
		}
		for back := range 1 + k%2 {
			t.Run(fmt.Sprint(k, " ", back), func(t *testing.T) {
				t.Parallel()
				for n := 0; crashesInTurn(t, c, theLast-back, n); n++ {
				}
			})
		}
	}
}

// crashesInTurn lets the power go off behind so many doings of a call, and tells whether it broke the call off.
func crashesInTurn(t *testing.T, c call, turn, n int) bool {
	waiting := 0
	for k := 0; k == 0 || k < len(choices(stir(n), waiting)); k++ {
		p := made(t, 100, early()...)
		p.turned(turn)
		behind := p.m.copied()
		c.in(behind)
		p.d.Fuse(n)
		errno := c.on(p.s)
		if errno == api.OK {
			p.d.Crash(nil)
			p.survives(c.name, behind, behind)
			return false
		}
		if errno != api.ErrOff {
			t.Fatalf("%s, fuse %d: %d", c.name, n, errno)
		}
		waiting = len(p.d.Waiting())
		p.d.Crash(choices(stir(n), waiting)[k])
		p.survives(c.name, p.m, behind)
		// What it left is in the way of nothing: the same call again, and others.
		p.try(c)
		p.do(advances(), inserts("t", pairs(50, 1)...), moves("t"), advances())
		p.same("calls behind a crash")
	}
	return true
}

// A call of the last turn that is broken off by each fuse, one behind the other, on one device.
func TestTheLastTurnBrokenOffAgainAndAgain(t *testing.T) {
	p := made(t, 100, early()...)
	p.turned(theLast)
	for n := 0; ; n++ {
		behind := p.m.copied()
		behind.move("t")
		p.d.Fuse(n)
		errno := p.s.Move("t")
		p.d.Crash([]int{n % 7, n % 5, n % 3})
		if errno == api.OK {
			p.survives("Move", behind, behind)
			break
		}
		p.survives("Move", p.m, behind)
		if _, _, turn, _ := slots.Read(p.d); turn != theLast && p.m != behind {
			t.Fatal(n, turn)
		}
	}
}

// A slot that is lost is told in these turns, too, and behind them.
func TestASlotThatIsLostInTheLastTurns(t *testing.T) {
	for count := range 5 {
		p := made(t, 300, early()...)
		p.turned(theLast - 2)
		for range count {
			p.do(moves("t"))
		}
		for at := range 2 {
			d := copyOf(t, p.d)
			d.Spoil(at, strings.Repeat("\x00", 128))
			if s, errno := Open(d); s != nil || errno != api.ErrCorrupt {
				t.Error(count, at, errno)
			}
		}
	}
}

// Slots of turns of which one does not follow the other, and records of the last turn, which has none.
func TestTurnsThatMayNotBe(t *testing.T) {
	p := made(t, 300, early()...)
	p.turned(theLast)
	bytes, at, _, _ := slots.Read(p.d)
	for turn, want := range map[int]api.Errno{1: api.ErrCorrupt, 3: api.OK, 5: api.ErrCorrupt, 1<<32 - 3: api.ErrCorrupt, 1<<32 - 1: api.OK} {
		d := copyOf(t, p.d)
		d.Spoil(1, slots.Slot(at, turn, bytes))
		if _, errno := Open(d); errno != want {
			t.Error(turn, errno)
		}
	}
	d := copyOf(t, p.d)
	j, _ := journal.Begin(d, regionsOf(300).journal, theLast)
	if errno := j.Add(deed{kind: doAdvance}.put()); errno != api.OK {
		t.Fatal(errno)
	}
	if s, errno := Open(d); s != nil || errno != api.ErrCorrupt {
		t.Error(errno)
	}
	p.turned(theLast - 2)
	for turn := range 4 {
		d := copyOf(t, p.d)
		d.Spoil(1, slots.Slot(at, 2*turn+1, bytes))
		if s, errno := Open(d); s != nil || errno != api.ErrCorrupt {
			t.Error(turn, errno)
		}
	}
}
