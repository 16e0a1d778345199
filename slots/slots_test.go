package slots

import (
	"peristyle/api"
	"peristyle/device"
	"slices"
	"strconv"
	"strings"
	"testing"
)

// Sl1: a slot's block

func TestExample(t *testing.T) {
	d := made(t, 8)
	one, two := from(2, 2), from(5, 3)
	lays(t, d, one, 1, "first")
	holds(t, "turn 1", d, slices.Concat([]string{blank(), telling(one, 1, "first").block()}, blocksOf(2, "first"), blanks(4)))
	reads(t, "turn 1", d, answer{"first", one, 1, api.OK})
	lays(t, d, two, 2, "second")
	holds(t, "turn 2", d, slices.Concat([]string{telling(two, 2, "second").block(), telling(one, 1, "first").block()}, blocksOf(2, "first"), blanks(1), blocksOf(3, "second")))
	reads(t, "turn 2", d, answer{"second", two, 2, api.OK})
}

// TestASlotByItsBytes has a slot's block written out, its sums, too.
func TestASlotByItsBytes(t *testing.T) {
	got := Slot(from(8, 2), 64, "123456789")
	head := "\x80\x01" + "\x10" + "\x04" + "\x12" + "\x86\xca\xb4\xb0\x1c"
	want := head + "\x96\xc6\x85\x7b" + strings.Repeat("\x00", 114)
	if got != want || len(got) != 128 {
		t.Errorf("%q, not %q", got, want)
	}
}

func TestSlotsOfAnyNumbers(t *testing.T) {
	for _, turn := range slices.Concat(anyInts, turns, noTurns) {
		for _, first := range anyInts {
			for _, count := range anyInts {
				at := from(first, count)
				if got, want := Slot(at, turn, "it"), telling(at, turn, "it").block(); got != want || len(got) != size {
					t.Fatalf("Slot(%v, %d): %q, not %q", at, turn, got, want)
				}
			}
		}
	}
}

func TestSlotsOfTexts(t *testing.T) {
	r := stir(1)
	at := from(2, 3)
	texts := []string{"", "\x00", "a", "\x00\x00", "a\x00", "\x00a", blank(), strings.Repeat("\xff", 32), strings.Repeat("x", 1<<20)}
	for _, count := range []int{1, 63, 64, 127, 128, 129, 384, 385, 8191, 8192, 1 << 17} {
		texts = append(texts, rising(count, count), r.bytes(count))
	}
	for _, s := range texts {
		for _, turn := range []int{1, 2, latest, 0, least} {
			if got, want := Slot(at, turn, s), telling(at, turn, s).block(); got != want || len(got) != size {
				t.Errorf("Slot of %d bytes: %q, not %q", len(s), got, want)
			}
		}
	}
	for range 3000 {
		s, at, turn := r.bytes(r.below(9)), from(r.below(4096), r.below(4096)), r.below(1<<31)
		if got, want := Slot(at, turn, s), telling(at, turn, s).block(); got != want {
			t.Fatalf("Slot(%v, %d, %q): %q, not %q", at, turn, s, got, want)
		}
	}
}

func TestSlotsOfAGreatSum(t *testing.T) {
	// Sums of each count of bytes, that of no bytes and those with the highest bit among them.
	had := map[int]bool{}
	for k := range 1 << 16 {
		s := string([]byte{byte(k), byte(k >> 8)})
		width := len(number(sumOf(s)))
		if had[width] {
			continue
		}
		had[width] = true
		if got, want := Slot(from(2, 1), 1, s), telling(from(2, 1), 1, s).block(); got != want {
			t.Errorf("a sum of %d bytes: %q, not %q", width, got, want)
		}
	}
	if !had[5] || !had[4] {
		t.Errorf("sums of these bytes: %v", had)
	}
}

// Sl1: what Lay refuses

// noDevices are those that New did not give.
func noDevices() []*device.Device { return []*device.Device{nil, {}, new(device.Device)} }

func TestWithoutADevice(t *testing.T) {
	for _, d := range noDevices() {
		for _, at := range []api.Extent{{}, from(0, 1), from(1, 1), from(2, 0), from(2, 1), from(2, -1), from(2, -2), from(-1, 1), from(least, great), from(great, least), from(2, great), from(great, great)} {
			for _, turn := range []int{1, 2, 0, latest + 1} {
				if errno := Lay(d, at, turn, ""); errno != api.ErrArg {
					t.Errorf("Lay(%v, %d) without a device: %d", at, turn, errno)
				}
			}
		}
		reads(t, "without a device", d, failing(api.ErrArg))
	}
}

func TestSmallDevices(t *testing.T) {
	for _, count := range []int{1, 2} {
		d := made(t, count)
		for _, at := range []api.Extent{from(0, 1), from(0, count), from(1, 1), from(2, 0), from(2, 1), from(2, -1), from(3, -1), from(3, 1)} {
			for _, s := range []string{"", "a"} {
				refuses(t, d, at, 1, s, api.ErrArg)
				refuses(t, d, at, 2, s, api.ErrArg)
			}
		}
	}
	reads(t, "one block", made(t, 1), failing(api.ErrArg))
	reads(t, "one block, spoilt", holding(t, []string{rising(size, 1)}), failing(api.ErrArg))
	reads(t, "two blocks", made(t, 2), failing(api.ErrNone))
	fails(t, "two blocks, spoilt", []string{blank(), rising(size, 1)}, api.ErrCorrupt)
	// A device of 2 blocks has none for bytes: no slot can be right there.
	fails(t, "two blocks, a slot", []string{blank(), telling(from(2, 1), 1, "").block()}, api.ErrCorrupt)
	fails(t, "two blocks, a slot", []string{telling(from(2, 0), 2, "").block(), blank()}, api.ErrCorrupt)
	d := made(t, 3)
	refuses(t, d, from(2, 2), 1, "", api.ErrArg)
	refuses(t, d, from(1, 2), 1, "", api.ErrArg)
	refuses(t, d, from(3, 1), 1, "", api.ErrArg)
	lays(t, d, from(2, 1), 1, "three")
	reads(t, "three blocks", d, answer{"three", from(2, 1), 1, api.OK})
}

func TestTheGreatestDevice(t *testing.T) {
	d := made(t, 4096)
	refuses(t, d, from(2, 4095), 1, "", api.ErrArg)
	refuses(t, d, from(1, 4095), 1, "", api.ErrArg)
	refuses(t, d, from(4096, 1), 1, "", api.ErrArg)
	s := stir(5).bytes(4094 * size)
	refuses(t, d, from(2, 4094), 1, s+"x", api.ErrArg)
	lays(t, d, from(2, 4094), 1, s)
	holds(t, "all blocks", d, slices.Concat([]string{blank(), telling(from(2, 4094), 1, s).block()}, blocksOf(4094, s)))
	reads(t, "all blocks", d, answer{s, from(2, 4094), 1, api.OK})
	lays(t, d, from(4095, 1), 2, "last")
	reads(t, "the last block", d, answer{"last", from(4095, 1), 2, api.OK})
	lays(t, d, from(2, 4094), 3, "few")
	holds(t, "few bytes", d, slices.Concat([]string{telling(from(4095, 1), 2, "last").block(), telling(from(2, 4094), 3, "few").block()}, blocksOf(4094, "few")))
	reads(t, "few bytes", d, answer{"few", from(2, 4094), 3, api.OK})
}

// beside are numbers at the edges of a device of so many blocks, and of int; of some, so many blocks' bytes are like a few, or below 0.
func beside(count int) []int {
	return []int{least, least + 1, least + 2, -1 << 57, -1 << 56, -1 << 32, -count - 1, -count, -2, -1, 0, 1, 2, 3, count/2 - 1, count / 2, count/2 + 1, count - 3, count - 2, count - 1, count, count + 1, count + 2, 2 * count, 4094, 4095, 4096, 4097, 1 << 32, 1<<32 + 1, 1<<32 + 2, 1 << 56, 1<<56 + 1, 1 << 57, 1<<57 + 1, 1 << 62, great - count, great - 2, great - 1, great}
}

// TestWhichExtents asks by a fuse of 0: a Lay whose arguments are right goes on to the device, one whose arguments are wrong does not.
func TestWhichExtents(t *testing.T) {
	for _, count := range []int{1, 2, 3, 4, 10, 4096} {
		d := made(t, count)
		for _, first := range beside(count) {
			for _, blocks := range beside(count) {
				at := from(first, blocks)
				d.Fuse(0)
				want := api.ErrArg
				if first >= 2 && first < count && blocks >= 1 && blocks <= count && first+blocks <= count {
					want = api.ErrOff
				}
				for _, s := range []string{"", "a"} {
					if errno := Lay(d, at, 1, s); errno != want || d.Off() != (want == api.ErrOff) {
						t.Errorf("Lay(%v) of %d blocks: %d, off %v, not %d", at, count, errno, d.Off(), want)
					}
				}
				d.Crash(nil)
			}
		}
	}
}

func TestWhichTurns(t *testing.T) {
	d := made(t, 4)
	for _, turn := range noTurns {
		for _, at := range []api.Extent{from(2, 2), from(3, 1), from(2, 3), from(1, 1)} {
			refuses(t, d, at, turn, "a", api.ErrArg)
		}
	}
	for _, turn := range turns {
		d := made(t, 4)
		lays(t, d, from(3, 1), turn, "a")
		want := blanks(4)
		want[turn%2], want[3] = telling(from(3, 1), turn, "a").block(), blocksOf(1, "a")[0]
		holds(t, "turn "+strconv.Itoa(turn), d, want)
		reads(t, "turn "+strconv.Itoa(turn), d, answer{"a", from(3, 1), turn, api.OK})
	}
}

func TestHowManyBytes(t *testing.T) {
	for _, blocks := range []int{1, 2, 3, 5} {
		for _, count := range []int{0, 1, 2, 127, 128, 129, 255, 256, 257, 383, 384, 385, blocks*size - 1, blocks * size, blocks*size + 1, 7 * size} {
			d, at, s := made(t, 9), from(3, blocks), rising(count, blocks)
			if count > blocks*size {
				refuses(t, d, at, 3, s, api.ErrArg)
				continue
			}
			lays(t, d, at, 3, s)
			holds(t, strconv.Itoa(count)+" bytes", d, slices.Concat([]string{blank(), telling(at, 3, s).block(), blank()}, blocksOf(blocks, s), blanks(6-blocks)))
			reads(t, strconv.Itoa(count)+" bytes", d, answer{s, at, 3, api.OK})
		}
	}
}

// shut is a device of eight blocks whose power is off: turn 7 is laid, a write to block 6 waits.
func shut(t *testing.T) *device.Device {
	t.Helper()
	d := made(t, 8)
	lays(t, d, from(2, 2), 7, "seven")
	d.Write(6, rising(size, 3))
	d.Fuse(0)
	if d.Sync() != api.ErrOff || !d.Off() {
		t.Fatal("the power is on")
	}
	return d
}

func TestWhichErrorOfLay(t *testing.T) {
	wide := rising(3*size, 1)
	for _, d := range []*device.Device{made(t, 8), shut(t)} {
		for _, turn := range []int{8, 0, -1, latest + 1, least, great} {
			for _, at := range []api.Extent{from(4, 2), from(1, 2), from(0, 8), from(7, 2), from(8, 1), from(4, 0), from(4, -1), from(great, great), from(2, great), from(least, great)} {
				for _, s := range []string{"", wide} {
					if turn == 8 && at == from(4, 2) && s == "" {
						continue
					}
					refuses(t, d, at, turn, s, api.ErrArg)
				}
			}
		}
	}
	d := shut(t)
	refuses(t, d, from(4, 2), 8, "", api.ErrOff)
	refuses(t, d, from(4, 3), 8, wide, api.ErrOff)
	d.Crash([]int{0})
	reads(t, "behind the crash", d, answer{"seven", from(2, 2), 7, api.OK})
	if s, _ := d.Read(6); s != rising(size, 3) {
		t.Errorf("what waited: %q", s)
	}
}

func TestWhatIsRefusedDoesNothing(t *testing.T) {
	d := holding(t, twoLaid())
	d.Write(11, rising(size, 5))
	d.Write(2, rising(size, 6))
	d.Fuse(1)
	for _, turn := range noTurns {
		refuses(t, d, from(2, 3), turn, "a", api.ErrArg)
	}
	for _, at := range []api.Extent{{}, from(0, 12), from(1, 3), from(2, 11), from(12, 1), from(2, 0), from(2, -3), from(great, 1), from(2, great), from(least, least)} {
		refuses(t, d, at, 9, "a", api.ErrArg)
	}
	refuses(t, d, from(2, 3), 9, strings.Repeat("\x00", 385), api.ErrArg)
	// One more doing was left by the fuse, and is still.
	if d.Sync() != api.OK || d.Sync() != api.ErrOff {
		t.Error("what was refused did something")
	}
}

// Sl1: what Lay does

func TestBytesOfEveryValue(t *testing.T) {
	each := make([]byte, 256)
	for k := range each {
		each[k] = byte(k)
	}
	d, turn := made(t, 12), 0
	texts := []string{string(each), string(each[:128]), string(each[1:]), blank(), blank() + "a", "a" + blank(), "\x00", "\x00\x00a\x00\x00", strings.Repeat("\x00", 5*size), strings.Repeat("\xff", 5*size), "it's \xff\xfe no text", ""}
	for k := range each {
		texts = append(texts, strings.Repeat(string(each[k:k+1]), k%7*31+1))
	}
	for _, s := range texts {
		turn++
		at := from(2+turn%2*5, 5)
		lays(t, d, at, turn, s)
		reads(t, "bytes", d, answer{s, at, turn, api.OK})
		got := blocksIn(t, d)
		if !slices.Equal(got[at.First:at.First+5], blocksOf(5, s)) || got[turn%2] != telling(at, turn, s).block() {
			t.Errorf("blocks of %.40q", s)
		}
	}
}

func TestLayWritesOverWhatStandsThere(t *testing.T) {
	for _, count := range []int{0, 1, 128, 129, 300, 512} {
		for _, turn := range []int{4, 5} {
			blocks := make([]string, 9)
			for k := range blocks {
				blocks[k] = rising(size, k+9)
			}
			d := holding(t, blocks)
			at, s := from(3, 4), rising(count, 1)
			lays(t, d, at, turn, s)
			want := slices.Clone(blocks)
			want[turn%2] = telling(at, turn, s).block()
			copy(want[3:], blocksOf(4, s))
			holds(t, "over other bytes", d, want)
			waits(t, "over other bytes", d, nil)
			d.Crash(nil)
			holds(t, "behind a crash", d, want)
			// The other slot was spoilt, and still is.
			reads(t, "the other slot", d, failing(api.ErrCorrupt))
			d.Spoil(1-turn%2, blank())
			reads(t, "one slot", d, answer{s, at, turn, api.OK})
		}
	}
}

// TestFuses breaks a Lay off at each of its doings: what waits, and what is sure, by then.
func TestFuses(t *testing.T) {
	for _, at := range []api.Extent{from(2, 1), from(3, 1), from(2, 2), from(4, 3), from(2, 6)} {
		for _, turn := range []int{9, 10} {
			s := rising(at.Count*size-20, 4)
			before := make([]string, 9)
			for k := range before {
				before[k] = rising(size, k+9)
			}
			places := make([]int, at.Count)
			for k := range places {
				places[k] = at.First + k
			}
			laid := slices.Clone(before)
			copy(laid[at.First:], blocksOf(at.Count, s))
			whole := with(laid, turn%2, telling(at, turn, s).block())
			for fuse := range at.Count + 5 {
				what := "fuse " + strconv.Itoa(fuse) + " of " + strconv.Itoa(at.Count)
				d := holding(t, before)
				d.Fuse(fuse)
				errno := Lay(d, at, turn, s)
				if done := fuse >= at.Count+3; done != (errno == api.OK) || !done && errno != api.ErrOff || d.Off() == done {
					t.Errorf("%s: %d, off %v", what, errno, d.Off())
				}
				sure := before
				switch {
				case fuse <= at.Count:
					waits(t, what, d, places[:fuse])
				case fuse == at.Count+2:
					waits(t, what, d, []int{turn % 2})
					sure = laid
				case fuse < at.Count+2:
					waits(t, what, d, nil)
					sure = laid
				default:
					waits(t, what, d, nil)
					sure = whole
				}
				if fuse == at.Count+4 && (d.Sync() != api.OK || d.Sync() != api.ErrOff) {
					t.Errorf("%s: no doing was left", what)
				}
				d.Crash(nil)
				holds(t, what, d, sure)
			}
		}
	}
}

func TestWhatSurvivesOfABrokenLay(t *testing.T) {
	at, s := from(3, 3), rising(300, 1)
	for fuse := range 3 + 3 {
		d := made(t, 8)
		d.Fuse(fuse)
		if errno := Lay(d, at, 6, s); errno != api.ErrOff {
			t.Errorf("fuse %d: %d", fuse, errno)
		}
		d.Crash(below(8))
		want := blanks(8)
		copy(want[3:], blocksOf(3, s)[:min(fuse, 3)])
		if fuse == 5 {
			want[0] = telling(at, 6, s).block()
		}
		holds(t, "fuse "+strconv.Itoa(fuse), d, want)
	}
}

func TestLaySyncsWhatWaits(t *testing.T) {
	d := made(t, 8)
	d.Write(7, rising(size, 1))
	d.Write(3, rising(size, 2))
	lays(t, d, from(3, 2), 1, "a")
	waits(t, "behind Lay", d, nil)
	d.Crash(nil)
	if s, _ := d.Read(7); s != rising(size, 1) {
		t.Errorf("what waited: %q", s)
	}
	reads(t, "what waited", d, answer{"a", from(3, 2), 1, api.OK})
}

func TestLayOfOtherTurns(t *testing.T) {
	d := holding(t, twoLaid())
	// The same turn again, elsewhere and at the same place.
	lays(t, d, from(10, 2), 8, "again")
	reads(t, "the same turn", d, answer{"again", from(10, 2), 8, api.OK})
	lays(t, d, from(10, 2), 8, "and again")
	reads(t, "the same turn and extent", d, answer{"and again", from(10, 2), 8, api.OK})
	// Elder ones: what they lay is there, but not the last one.
	lays(t, d, from(5, 1), 5, "five")
	reads(t, "an elder turn", d, answer{"and again", from(10, 2), 8, api.OK})
	lays(t, d, from(6, 1), 2, "two")
	reads(t, "an elder turn in the slot of the last", d, answer{"five", from(5, 1), 5, api.OK})
	lays(t, d, from(7, 2), latest, "latest")
	reads(t, "the last turn of all", d, answer{"latest", from(7, 2), latest, api.OK})
	lays(t, d, from(2, 1), latest-1, "one less")
	reads(t, "the last turn but one", d, answer{"latest", from(7, 2), latest, api.OK})
	want := blocksIn(t, d)
	if want[0] != telling(from(7, 2), latest, "latest").block() || want[1] != telling(from(2, 1), latest-1, "one less").block() {
		t.Error("the slots")
	}
	// Over what the other slot tells of: the lesser turn's bytes are gone, and nobody asks.
	lays(t, d, from(6, 4), latest, "over")
	reads(t, "over its own", d, answer{"over", from(6, 4), latest, api.OK})
	lays(t, d, from(2, 5), latest-1, "over the greater")
	reads(t, "over the greater turn's", d, failing(api.ErrCorrupt))
}

func TestLayOverTheOthersExtent(t *testing.T) {
	// The lesser turn is laid over a block of the greater one, which is asked; the other way round it is not.
	d := made(t, 8)
	lays(t, d, from(2, 3), 4, rising(300, 1))
	lays(t, d, from(4, 3), 5, rising(300, 2))
	reads(t, "over the lesser", d, answer{rising(300, 2), from(4, 3), 5, api.OK})
	lays(t, d, from(2, 3), 4, rising(300, 3))
	reads(t, "over the greater", d, failing(api.ErrCorrupt))
	lays(t, d, from(2, 6), 6, "")
	reads(t, "over both", d, answer{"", from(2, 6), 6, api.OK})
	// By the same bytes: what stands there is as it was laid.
	lays(t, d, from(2, 6), 5, "")
	reads(t, "the same bytes", d, answer{"", from(2, 6), 6, api.OK})
}

// Sl2

func TestReadOfNone(t *testing.T) {
	for _, count := range []int{2, 3, 4, 64, 4096} {
		d := made(t, count)
		reads(t, "noughts", d, failing(api.ErrNone))
		for k := 2; k < count; k++ {
			d.Spoil(k, rising(size, k))
		}
		reads(t, "noughts, bytes behind the slots", d, failing(api.ErrNone))
	}
}

func TestReadOfOneAndOfTwo(t *testing.T) {
	both := twoLaid()
	gives(t, "both", both, eighth())
	gives(t, "the even one", with(both, 1, blank()), eighth())
	gives(t, "the odd one", with(both, 0, blank()), seventh())
	fails(t, "none", with(with(both, 0, blank()), 1, blank()), api.ErrNone)
	for _, even := range []int{2, 4, 6, 8, 10, 1 << 31, latest} {
		for _, odd := range []int{1, 3, 5, 7, 9, 11, 1<<31 + 1, latest - 1} {
			blocks := slices.Clone(both)
			blocks[0] = telling(from(6, 4), even, rising(300, 2)).block()
			blocks[1] = telling(from(2, 3), odd, rising(200, 1)).block()
			want := answer{rising(300, 2), from(6, 4), even, api.OK}
			if odd > even {
				want = answer{rising(200, 1), from(2, 3), odd, api.OK}
			}
			gives(t, "turns "+strconv.Itoa(even)+" and "+strconv.Itoa(odd), blocks, want)
		}
	}
}

func TestReadOfNoBytes(t *testing.T) {
	for _, count := range []int{1, 2, 6} {
		for _, turn := range []int{1, 2} {
			blocks := blanks(8)
			blocks[turn%2] = telling(from(2, count), turn, "").block()
			gives(t, "no bytes", blocks, answer{"", from(2, count), turn, api.OK})
			fails(t, "a byte where none is", with(blocks, 2, turned(blank(), 0)), api.ErrCorrupt)
			fails(t, "a byte where none is", with(blocks, 1+count, turned(blank(), 1023)), api.ErrCorrupt)
			blocks[turn%2] = told{turn, 2, count, 0, 1}.block()
			fails(t, "no bytes and a sum", blocks, api.ErrCorrupt)
		}
	}
}

func TestReadOfNoughts(t *testing.T) {
	// Noughts that are bytes, and noughts behind them, are told from each other by how many bytes there are.
	for count := range 2*size + 1 {
		s := strings.Repeat("\x00", count)
		blocks := blanks(4)
		blocks[1] = telling(from(2, 2), 3, s).block()
		gives(t, strconv.Itoa(count)+" noughts", blocks, answer{s, from(2, 2), 3, api.OK})
		if count > 0 {
			blocks[1] = told{3, 2, 2, count - 1, sumOf(s)}.block()
			fails(t, "one byte less", blocks, api.ErrCorrupt)
		}
	}
}

func TestReadWithoutPower(t *testing.T) {
	both := twoLaid()
	spoilt := rising(size, 8)
	for _, blocks := range [][]string{both, blanks(2), blanks(12), with(both, 0, spoilt), with(both, 1, spoilt), with(both, 6, spoilt), with(both, 0, blank())} {
		d := holding(t, blocks)
		d.Write(1, spoilt)
		d.Fuse(0)
		d.Sync()
		before := seen(d)
		for range 3 {
			reads(t, "without power", d, failing(api.ErrOff))
		}
		isAs(t, "without power", d, before)
		d.Crash(nil)
		reads(t, "with power again", d, meant(blocks))
	}
	d := made(t, 1)
	d.Fuse(0)
	d.Sync()
	reads(t, "one block, without power", d, failing(api.ErrArg))
}

func TestReadOfWhatWaits(t *testing.T) {
	// What waits is read, as it is by the device; a crash takes it.
	d := holding(t, with(twoLaid(), 0, blank()))
	d.Write(0, twoLaid()[0])
	reads(t, "a slot that waits", d, eighth())
	d.Crash(nil)
	reads(t, "behind the crash", d, seventh())
}

func TestReadDoesNothing(t *testing.T) {
	d := holding(t, twoLaid())
	d.Write(2, rising(size, 3))
	d.Write(11, rising(size, 4))
	d.Fuse(1)
	before := seen(d)
	for range 20 {
		reads(t, "again and again", d, eighth())
	}
	d.Spoil(0, rising(size, 4))
	reads(t, "spoilt", d, failing(api.ErrCorrupt))
	d.Spoil(0, before.blocks[0])
	isAs(t, "Read", d, before)
	if d.Sync() != api.OK || d.Sync() != api.ErrOff {
		t.Error("Read did something")
	}
}

func TestEachBitOfASlot(t *testing.T) {
	both := twoLaid()
	for place := range 2 {
		for bit := range 8 * size {
			s := turned(both[place], bit)
			fails(t, "a bit of the slot "+strconv.Itoa(place), with(both, place, s), api.ErrCorrupt)
			fails(t, "a bit of the slot alone", with(with(both, 1-place, blank()), place, s), api.ErrCorrupt)
			nearly := turned(blank(), bit)
			fails(t, "a bit of noughts", with(both, place, nearly), api.ErrCorrupt)
			fails(t, "a bit of noughts alone", with(blanks(12), place, nearly), api.ErrCorrupt)
		}
	}
	both[0], both[1] = turned(both[0], 3), turned(both[1], 70)
	fails(t, "both slots", both, api.ErrCorrupt)
}

func TestOtherBytesAtEachPlaceOfASlot(t *testing.T) {
	both := twoLaid()
	for place := range 2 {
		for at := range size {
			for _, b := range []byte{0, 1, 0x7f, 0x80, 0xff} {
				s := []byte(both[place])
				if s[at] == b {
					continue
				}
				s[at] = b
				fails(t, "another byte", with(both, place, string(s)), api.ErrCorrupt)
			}
		}
	}
}

// forged is a slot's block that is sealed right, and whether it may stand in that slot of twoLaid's device.
type forged struct {
	what  string
	place int
	told
	is bool
}

// sealedAnew are slots of which one number is another than in twoLaid.
func sealedAnew() []forged {
	var all []forged
	for place, right := range []told{telling(from(6, 4), 8, rising(300, 2)), telling(from(2, 3), 7, rising(200, 1))} {
		add := func(what string, n int, w told, is bool) {
			all = append(all, forged{what + " " + strconv.Itoa(n), place, w, is})
		}
		for _, n := range slices.Concat(turns, noTurns, anyInts, []int{6, 7, 8, 9}) {
			w := right
			w.turn = n
			add("turn", n, w, n >= 1 && n <= latest && n%2 == place)
		}
		for _, n := range beside(12) {
			w := right
			w.first = n
			add("first", n, w, n >= 2 && n <= 12-right.count)
			w = right
			w.count = n
			add("count", n, w, n >= (right.bytes+size-1)/size && n <= 12-right.first)
		}
		room := right.count * size
		for _, n := range []int{least, least + 1, -latest, -129, -128, -2, -1, 0, 1, 2, 127, 128, right.bytes - 1, right.bytes + 1, room - 1, room, room + 1, room + 2, 2 * room, 10 * size, 1 << 31, latest, latest + right.bytes, 1 << 62, great - 1, great} {
			w := right
			w.bytes = n
			add("bytes", n, w, n >= 0 && n <= room)
		}
		for _, n := range []int{least, -latest, -1, right.sum - latest, 0, 1, right.sum + 1, right.sum - 1, right.sum ^ 1<<31, latest - 1, latest, latest + 1, right.sum + latest, right.sum + 2*latest, great} {
			w := right
			w.sum = n
			add("sum", n, w, n >= 0 && n < latest)
		}
	}
	return all
}

func TestSlotsSealedAnew(t *testing.T) {
	both := twoLaid()
	for _, f := range sealedAnew() {
		what := f.what + " in slot " + strconv.Itoa(f.place)
		blocks := with(both, f.place, f.block())
		alone := with(blocks, 1-f.place, blank())
		if !f.is {
			fails(t, what, blocks, api.ErrCorrupt)
			fails(t, what+", alone", alone, api.ErrCorrupt)
			fails(t, what+", both spoilt", with(blocks, 1-f.place, rising(size, 1)), api.ErrCorrupt)
			continue
		}
		// It may stand there: only if it has the greater turn, it is asked what lies in its extent.
		other := []int{7, 8}[f.place]
		otherOne := []answer{seventh(), eighth()}[f.place]
		if f.turn < other {
			gives(t, what, blocks, otherOne)
		} else if got := meant(blocks); got.errno == api.OK {
			gives(t, what, blocks, answer{got.s, from(f.first, f.count), f.turn, api.OK})
		} else {
			fails(t, what, blocks, api.ErrCorrupt)
		}
		readsAsMeant(t, what+", alone", holding(t, alone))
		fails(t, what+", the other one spoilt", with(blocks, 1-f.place, rising(size, 1)), api.ErrCorrupt)
	}
}

// TestTheLesserSlotIsAsked lets each forged slot have the lesser turn, whatever else it tells.
func TestTheLesserSlotIsAsked(t *testing.T) {
	for _, f := range sealedAnew() {
		if strings.HasPrefix(f.what, "turn") {
			continue
		}
		f.turn = 2 - f.place
		for _, greater := range []int{7, 8, 1 << 31, 1<<31 + 1} {
			if greater%2 == f.place {
				continue
			}
			s := rising(140, greater)
			blocks := blanks(12)
			copy(blocks[3:], blocksOf(2, s))
			blocks[1-f.place] = telling(from(3, 2), greater, s).block()
			blocks[f.place] = f.block()
			if f.is {
				gives(t, f.what+", lesser", blocks, answer{s, from(3, 2), greater, api.OK})
			} else {
				fails(t, f.what+", lesser", blocks, api.ErrCorrupt)
			}
		}
	}
}

func TestAnotherSumOfTheGreater(t *testing.T) {
	both := twoLaid()
	right := telling(from(6, 4), 8, rising(300, 2))
	for bit := range 32 {
		w := right
		w.sum ^= 1 << bit
		fails(t, "another sum", with(both, 0, w.block()), api.ErrCorrupt)
		w = telling(from(2, 3), 7, rising(200, 1))
		w.sum ^= 1 << bit
		gives(t, "another sum of the lesser", with(both, 1, w.block()), eighth())
		fails(t, "another sum, alone", with(with(both, 1, w.block()), 0, blank()), api.ErrCorrupt)
	}
}

// longer are a number's bytes, and needless ones behind.
func longer(n, more int) string {
	s := []byte(number(n))
	for range more {
		s[len(s)-1] |= 0x80
		s = append(s, 0)
	}
	return string(s)
}

func TestNumbersInMoreBytesThanTheyNeed(t *testing.T) {
	both := twoLaid()
	for place, w := range []told{telling(from(6, 4), 8, rising(300, 2)), telling(from(2, 3), 7, rising(200, 1))} {
		for which := range 5 {
			for more := range 6 {
				s := ""
				for k, n := range []int{w.turn, w.first, w.count, w.bytes, w.sum} {
					if k == which {
						s += longer(n, more)
					} else {
						s += number(n)
					}
				}
				if more == 0 {
					gives(t, "as many bytes as it needs", with(both, place, sealed(s)), eighth())
					continue
				}
				fails(t, "needless bytes", with(both, place, sealed(s)), api.ErrCorrupt)
			}
			s := ""
			for k, n := range []int{w.turn, w.first, w.count, w.bytes, w.sum} {
				if k == which {
					// More bits than a number has.
					s += strings.Repeat("\x80", 9) + "\x02"
				} else {
					s += number(n)
				}
			}
			fails(t, "too wide", with(both, place, sealed(s)), api.ErrCorrupt)
		}
	}
}

func TestBytesSealedInBesides(t *testing.T) {
	both := twoLaid()
	for place, w := range []told{telling(from(6, 4), 8, rising(300, 2)), telling(from(2, 3), 7, rising(200, 1))} {
		all := number(w.turn) + number(w.first) + number(w.count) + number(w.bytes) + number(w.sum)
		for _, more := range []string{"\x00", "\x01", "a", number(5), "\x00\x00\x00\x00", strings.Repeat("\x00", 30), strings.Repeat("z", 100), strings.Repeat("\x00", size-4-len(all))} {
			fails(t, "bytes besides", with(both, place, sealed(all+more)), api.ErrCorrupt)
			fails(t, "bytes ahead", with(both, place, sealed(more+all)), api.ErrCorrupt)
		}
		for cut := 1; cut < len(all); cut++ {
			fails(t, "bytes that end too soon", with(both, place, sealed(all[:cut])), api.ErrCorrupt)
			// Without a seal, and without noughts: bytes that tell of one more up to the block's end.
			fails(t, "bytes that do not end", with(both, place, all[:cut]+strings.Repeat("\x80", size-cut)), api.ErrCorrupt)
			fails(t, "bytes that do not end", with(both, place, strings.Repeat("\x01", size-cut)+strings.Repeat("\xff", cut)), api.ErrCorrupt)
		}
		// A seal that is right, of bytes that begin elsewhere.
		fails(t, "one byte further on", with(both, place, "\x00"+both[place][:size-1]), api.ErrCorrupt)
		fails(t, "one byte ahead", with(both, place, both[place][1:]+"\x00"), api.ErrCorrupt)
		for _, at := range []int{20, 60, 127} {
			s := both[place][:at] + "\x01" + both[place][at+1:]
			fails(t, "no noughts behind", with(both, place, s), api.ErrCorrupt)
		}
	}
	// A block whose last number ends with it: there is no room for a seal.
	full := strings.Repeat("\x80\x80\x80\x80\x80\x80\x80\x80\x80\x01", 4)
	fails(t, "four numbers", with(both, 0, full+strings.Repeat("\x80", size-40)), api.ErrCorrupt)
}

func TestSlotsInTheOtherPlace(t *testing.T) {
	both := twoLaid()
	fails(t, "changed", with(with(both, 0, both[1]), 1, both[0]), api.ErrCorrupt)
	fails(t, "twice the even one", with(both, 1, both[0]), api.ErrCorrupt)
	fails(t, "twice the odd one", with(both, 0, both[1]), api.ErrCorrupt)
	fails(t, "the odd one in 0 alone", with(with(both, 0, both[1]), 1, blank()), api.ErrCorrupt)
	fails(t, "the even one in 1 alone", with(with(both, 1, both[0]), 0, blank()), api.ErrCorrupt)
}

func TestEachBitOfTheBytes(t *testing.T) {
	both := twoLaid()
	for k := 2; k < 12; k++ {
		asked := k >= 6 && k < 10
		for bit := range 8 * size {
			blocks := with(both, k, turned(both[k], bit))
			if asked {
				fails(t, "a bit of block "+strconv.Itoa(k), blocks, api.ErrCorrupt)
			} else {
				gives(t, "a bit of block "+strconv.Itoa(k), blocks, eighth())
			}
		}
	}
	// Of the other slot alone, the other extent is asked.
	alone := with(both, 0, blank())
	for k := 2; k < 12; k++ {
		for bit := range 8 * size {
			blocks := with(alone, k, turned(alone[k], bit))
			if k < 5 {
				fails(t, "a bit of block "+strconv.Itoa(k), blocks, api.ErrCorrupt)
			} else {
				gives(t, "a bit of block "+strconv.Itoa(k), blocks, seventh())
			}
		}
	}
}

func TestBytesThatAreElsewhere(t *testing.T) {
	both := twoLaid()
	for a := 6; a < 10; a++ {
		for b := a + 1; b < 10; b++ {
			blocks := with(with(both, a, both[b]), b, both[a])
			fails(t, "blocks changed", blocks, api.ErrCorrupt)
		}
	}
	// The greater turn's bytes are spoilt: the lesser one's are right, and are not told.
	for k := 6; k < 10; k++ {
		fails(t, "spoilt", with(both, k, rising(size, 50)), api.ErrCorrupt)
		fails(t, "spoilt, and the lesser slot is, too", with(with(both, k, rising(size, 50)), 1, rising(size, 51)), api.ErrCorrupt)
	}
}

func TestBytesUpToTheEndOfTheExtent(t *testing.T) {
	for _, count := range []int{1, 127, 128, 129, 255, 256, 383, 384} {
		s := rising(count, 1)
		blocks := make([]string, 8)
		for k := range blocks {
			blocks[k] = rising(size, k+20)
		}
		copy(blocks[5:], blocksOf(3, s))
		blocks[0], blocks[1] = blank(), telling(from(5, 3), 3, s).block()
		// The last block of the device is the last of the extent; what stands ahead is not asked.
		gives(t, strconv.Itoa(count)+" bytes", blocks, answer{s, from(5, 3), 3, api.OK})
		copy(blocks[2:], blocksOf(3, s))
		blocks[5] = rising(size, 70)
		blocks[1] = telling(from(2, 3), 3, s).block()
		gives(t, strconv.Itoa(count)+" bytes, others behind", blocks, answer{s, from(2, 3), 3, api.OK})
	}
}

// Sl3

// crashes breaks a Lay off at each of its doings, over blocks that are sure, with each choice of the writes that wait; each device behind it is handed on, its power on.
func crashes(t *testing.T, blocks []string, at api.Extent, turn int, s string, then func(what string, d *device.Device)) {
	t.Helper()
	for fuse := range at.Count + 3 {
		waiting := fuse
		switch fuse {
		case at.Count + 1:
			waiting = 0
		case at.Count + 2:
			waiting = 1
		}
		for choice := range 1 << waiting {
			d := holding(t, blocks)
			d.Fuse(fuse)
			if errno := Lay(d, at, turn, s); errno != api.ErrOff || len(d.Waiting()) != waiting {
				t.Fatalf("fuse %d: %d, %v", fuse, errno, d.Waiting())
			}
			d.Crash(someOf(choice))
			then("fuse "+strconv.Itoa(fuse)+", choice "+strconv.Itoa(choice), d)
		}
	}
}

// isEither fails if Read answers neither what it answered ahead nor what was laid, or not as the words say; it tells whether it was laid.
func isEither(t *testing.T, what string, d *device.Device, ahead, laid answer) bool {
	t.Helper()
	got := readsAsMeant(t, what, d)
	if got != ahead && got != laid {
		t.Errorf("%s: %.40q, %v, %d, %d", what, got.s, got.at, got.turn, got.errno)
	}
	return got == laid
}

func TestEachCrash(t *testing.T) {
	both := twoLaid()
	for _, at := range []api.Extent{from(2, 3), from(2, 4), from(2, 1), from(3, 3), from(4, 2), from(5, 1), from(10, 2), from(11, 1)} {
		for _, count := range []int{0, 1, 128, at.Count*size - 5, at.Count * size} {
			s := rising(count, 5)
			laid, told := answer{s, at, 9, api.OK}, 0
			crashes(t, both, at, 9, s, func(what string, d *device.Device) {
				if isEither(t, what, d, eighth(), laid) {
					told++
				}
			})
			// Only where the slot was written, and survived.
			if told != 1 {
				t.Errorf("Lay in %v, of %d bytes: told %d times", at, count, told)
			}
		}
	}
}

func TestEachCrashOfTheFirstLay(t *testing.T) {
	for _, blocks := range [][]string{blanks(3), blanks(8), with(blanks(8), 3, rising(size, 1))} {
		for count := 1; count <= len(blocks)-2; count++ {
			for _, turn := range []int{1, 2, latest} {
				at, s := from(2, count), rising(count*size-7, count)
				crashes(t, blocks, at, turn, s, func(what string, d *device.Device) {
					isEither(t, what, d, failing(api.ErrNone), answer{s, at, turn, api.OK})
				})
			}
		}
	}
}

func TestEachCrashInTheOtherSlot(t *testing.T) {
	// The slot of the turn ahead is the odd one, and the even one has a lesser turn, or noughts.
	blocks := twoLaid()
	blocks[1] = telling(from(2, 3), 9, rising(200, 1)).block()
	ahead := answer{rising(200, 1), from(2, 3), 9, api.OK}
	for _, elder := range []string{blocks[0], blank()} {
		for _, at := range []api.Extent{from(6, 4), from(5, 2), from(7, 5)} {
			s := rising(100, 3)
			crashes(t, with(blocks, 0, elder), at, 10, s, func(what string, d *device.Device) {
				isEither(t, what, d, ahead, answer{s, at, 10, api.OK})
			})
		}
	}
}

func TestBrokenOffAgain(t *testing.T) {
	both := twoLaid()
	at := from(2, 3)
	first, second, third := rising(300, 3), rising(280, 4), rising(384, 5)
	crashes(t, both, at, 9, first, func(what string, d *device.Device) {
		if readsAsMeant(t, what, d) != eighth() {
			return
		}
		crashes(t, blocksIn(t, d), at, 9, second, func(more string, d *device.Device) {
			laid := answer{second, at, 9, api.OK}
			if isEither(t, what+"; "+more, d, eighth(), laid) {
				return
			}
			lays(t, d, from(2, 4), 9, third)
			reads(t, what+"; "+more, d, answer{third, from(2, 4), 9, api.OK})
		})
	})
}

func TestLaidOverWhatWasLeft(t *testing.T) {
	// What a broken Lay left is written over by one that needs fewer bytes: noughts stand behind.
	both := twoLaid()
	crashes(t, both, from(2, 4), 9, rising(512, 3), func(what string, d *device.Device) {
		if readsAsMeant(t, what, d).turn != 8 {
			return
		}
		lays(t, d, from(2, 4), 9, "few")
		reads(t, what, d, answer{"few", from(2, 4), 9, api.OK})
		got := blocksIn(t, d)
		if !slices.Equal(got[2:6], blocksOf(4, "few")) {
			t.Errorf("%s: blocks of few", what)
		}
	})
}

func TestSomeCrashesOfALongLay(t *testing.T) {
	r := stir(8)
	before := slices.Concat(twoLaid(), blanks(50))
	at, s := from(12, 50), r.bytes(50*size-3)
	laid := answer{s, at, 9, api.OK}
	choices := [][]int{nil, below(60)}
	for k := range 50 {
		choices = append(choices, []int{k}, slices.DeleteFunc(below(50), func(n int) bool { return n == k }))
	}
	for fuse := range 53 {
		for _, keep := range slices.Concat(choices, [][]int{r.some(50), r.some(50), {-1, 0, 0, 99}}) {
			d := holding(t, before)
			d.Fuse(fuse)
			if errno := Lay(d, at, 9, s); errno != api.ErrOff {
				t.Fatalf("fuse %d: %d", fuse, errno)
			}
			d.Crash(keep)
			want := eighth()
			if fuse == 52 && slices.Contains(keep, 0) {
				want = laid
			}
			reads(t, "fuse "+strconv.Itoa(fuse), d, want)
		}
	}
}

// TestManyLays lays turn behind turn, each in the extent that the last one has not; each is broken off, and laid again, behind the crash.
func TestManyLays(t *testing.T) {
	r := stir(9)
	d := made(t, 12)
	ahead := failing(api.ErrNone)
	for turn := 1; turn <= 400; turn++ {
		at := from(2+turn%2*5, 5)
		s := r.bytes(r.below(5*size + 1))
		laid := answer{s, at, turn, api.OK}
		for ahead.turn < turn && r.below(3) > 0 {
			d.Fuse(r.below(at.Count + 4))
			errno := Lay(d, at, turn, s)
			if errno == api.OK {
				reads(t, "a fuse that was long enough", d, laid)
			}
			d.Crash(r.some(6))
			if isEither(t, "turn "+strconv.Itoa(turn), d, ahead, laid) {
				ahead = laid
			} else if errno == api.OK {
				t.Fatalf("turn %d: what was laid is gone", turn)
			}
		}
		if ahead.turn < turn {
			lays(t, d, at, turn, s)
			ahead = laid
		}
		d.Crash(r.some(6))
		reads(t, "turn "+strconv.Itoa(turn), d, ahead)
	}
}

// R1 to R4

func TestBytesBehindATextAreNotRead(t *testing.T) {
	whole := rising(600, 1)
	for _, count := range []int{0, 1, 127, 128, 129, 256, 300} {
		d, twin := made(t, 8), made(t, 8)
		s := whole[50 : 50+count]
		lays(t, d, from(3, 3), 1, s)
		lays(t, twin, from(3, 3), 1, strings.Clone(s))
		holds(t, "a text within another", d, blocksIn(t, twin))
		reads(t, "a text within another", d, answer{s, from(3, 3), 1, api.OK})
		if Slot(from(3, 3), 1, s) != Slot(from(3, 3), 1, strings.Clone(s)) {
			t.Error("Slot of a text within another")
		}
	}
}

func TestEachHangsOnItsOwn(t *testing.T) {
	one, two := made(t, 6), made(t, 6)
	lays(t, one, from(2, 2), 1, "one")
	reads(t, "the other", two, failing(api.ErrNone))
	lays(t, two, from(2, 2), 2, "two")
	reads(t, "one", one, answer{"one", from(2, 2), 1, api.OK})
	reads(t, "two", two, answer{"two", from(2, 2), 2, api.OK})
	// What was answered stays as it was, whatever is written later.
	s, _, _, _ := Read(one)
	lays(t, one, from(2, 2), 3, "three")
	if s != "one" {
		t.Errorf("%q", s)
	}
}

func TestAnyArguments(t *testing.T) {
	r := stir(10)
	for range 4000 {
		d := noDevices()[r.below(3)]
		if r.below(8) > 0 {
			d = made(t, 1+r.below(9))
		}
		for range r.below(6) {
			at := from(r.of(anyInts...), r.of(anyInts...))
			if r.below(2) == 0 {
				at = from(r.below(10), r.below(8))
			}
			turn, s := r.of(anyInts...), r.bytes(r.below(700))
			want := api.ErrArg
			if d.Size() > 0 && mayLay(d, at, turn, s) {
				want = api.OK
			}
			if errno := Lay(d, at, turn, s); errno != want {
				t.Fatalf("Lay(%v, %d, %d bytes) of %d blocks: %d, not %d", at, turn, len(s), d.Size(), errno, want)
			}
			if got := Slot(at, turn, s); got != telling(at, turn, s).block() {
				t.Fatalf("Slot(%v, %d, %d bytes): %q", at, turn, len(s), got)
			}
			if d.Size() > 1 && r.below(4) == 0 {
				d.Spoil(r.below(d.Size()), r.bytes(size))
			}
		}
		if d.Size() == 0 {
			reads(t, "no device", d, failing(api.ErrArg))
			continue
		}
		readsAsMeant(t, "any arguments", d)
	}
}

// spoil lets a block of both devices be another: any bytes, noughts, one with a bit turned, or a slot's, sealed anew.
func spoil(r *stirrer, d, twin *device.Device) {
	at := r.below(d.Size())
	s, _ := d.Read(at)
	switch r.below(4) {
	case 0:
		s = blank()
	case 1:
		if len(s) == size {
			s = turned(s, r.below(8*size))
		}
	case 2:
		at = r.below(2)
		s = told{r.below(12), r.below(10), r.below(6), r.below(400), r.below(1<<31) * r.below(3)}.block()
	case 3:
		at = r.below(2)
		s = telling(from(2+r.below(4), 1+r.below(3)), 1+r.below(12), "").block()
	}
	d.Spoil(at, s)
	twin.Spoil(at, s)
}

// TestLongScripts does any calls, one behind the other, beside a twin device that is written by the chapter's words.
func TestLongScripts(t *testing.T) {
	for seed := range 60 {
		r := stir(100 + seed)
		count := 2 + r.below(12)
		d, twin := made(t, count), made(t, count)
		turn := 0
		for step := range 150 {
			what := "seed " + strconv.Itoa(seed) + ", step " + strconv.Itoa(step)
			switch r.below(10) {
			case 0:
				keep := r.some(12)
				d.Crash(keep)
				twin.Crash(keep)
			case 1:
				fuse := r.below(12)
				d.Fuse(fuse)
				twin.Fuse(fuse)
			case 2:
				if r.below(3) == 0 {
					spoil(r, d, twin)
				}
			default:
				turn = max(0, turn+r.of(-1, 0, 1, 1, 1, 1, 1))
				at := from(1+r.below(count), r.below(6))
				s := r.bytes(r.below(at.Count*size + 2))
				got, want := Lay(d, at, turn, s), laysOn(twin, at, turn, s)
				if got != want {
					t.Fatalf("%s: Lay(%v, %d, %d bytes): %d, not %d", what, at, turn, len(s), got, want)
				}
			}
			isAs(t, what, d, seen(twin))
			if d.Off() {
				reads(t, what, d, failing(api.ErrOff))
				continue
			}
			readsAsMeant(t, what, d)
		}
	}
}
