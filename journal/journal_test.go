package journal

import (
	"peristyle/api"
	"peristyle/device"
	"slices"
	"strconv"
	"strings"
	"testing"
)

// Jo1

func TestExample(t *testing.T) {
	d := made(t, 20)
	j := begun(t, d, from(2, 10), 3)
	s := rising(200, 1)
	adds(t, j, s)
	if Needs(200) != 3 {
		t.Errorf("Needs(200): %d", Needs(200))
	}
	want := slices.Concat(blanks(2), []string{
		partBlock(3, 0, 0, 2, s[:96]),
		partBlock(3, 1, 1, 1, s[96:192]),
		partBlock(3, 2, 2, 0, s[192:]),
	}, blanks(15))
	holds(t, d, want)
	opens(t, d, from(2, 10), 3, []string{s}, 7)
}

// TestABlockByItsBytes has a part's block written out, its sum, too.
func TestABlockByItsBytes(t *testing.T) {
	d := made(t, 1)
	adds(t, begun(t, d, from(0, 1), 64), "it's")
	head := "\x80\x01" + "\x00" + "\x00" + "\x00" + "\x08" + "it's"
	want := head + "\x47\xeb\x6a\x50" + strings.Repeat("\x00", 114)
	if s, _ := d.Read(0); s != want || len(s) != 128 {
		t.Errorf("%q, not %q", s, want)
	}
}

func TestWhichDevices(t *testing.T) {
	for _, d := range []*device.Device{nil, {}, new(device.Device)} {
		for _, at := range []api.Extent{{}, from(0, 0), from(0, 1), from(0, -1), from(-1, 1), from(1, 0), from(least, great), from(great, least)} {
			for _, turn := range []int{1, 0, latest + 1} {
				j, errno := Begin(d, at, turn)
				isRefused(t, "Begin without a device", j, errno, api.ErrArg)
				j, errno = Open(d, at, turn)
				isRefused(t, "Open without a device", j, errno, api.ErrArg)
			}
		}
	}
}

// beside are numbers at the edges of a device of so many blocks, and of int.
func beside(count int) []int {
	return []int{least, least + 1, -1 << 32, -count - 1, -count, -2, -1, 0, 1, 2, count/2 - 1, count / 2, count/2 + 1, count - 2, count - 1, count, count + 1, count + 2, 2 * count, 4095, 4096, 4097, 1 << 32, 1<<32 + 1, 1 << 62, great - count, great - 2, great - 1, great}
}

func TestWhichExtents(t *testing.T) {
	for _, count := range []int{1, 2, 3, 10, 4096} {
		d := made(t, count)
		for _, first := range beside(count) {
			for _, blocks := range beside(count) {
				at := from(first, blocks)
				is := first >= 0 && first < count && blocks >= 1 && blocks <= count && first+blocks <= count
				what := strconv.Itoa(first) + " " + strconv.Itoa(blocks) + " of " + strconv.Itoa(count)
				if !is {
					j, errno := Begin(d, at, 1)
					isRefused(t, "Begin in "+what, j, errno, api.ErrArg)
					j, errno = Open(d, at, 1)
					isRefused(t, "Open in "+what, j, errno, api.ErrArg)
					continue
				}
				tells(t, begun(t, d, at, 1), nil, blocks)
				opens(t, d, at, 1, nil, blocks)
			}
		}
	}
}

func TestWhichTurns(t *testing.T) {
	d := made(t, 4)
	for _, turn := range noTurns {
		for _, at := range []api.Extent{from(0, 4), from(1, 2), from(0, 5), from(-1, 1)} {
			j, errno := Begin(d, at, turn)
			isRefused(t, "Begin of turn "+strconv.Itoa(turn), j, errno, api.ErrArg)
			j, errno = Open(d, at, turn)
			isRefused(t, "Open of turn "+strconv.Itoa(turn), j, errno, api.ErrArg)
		}
	}
	for _, turn := range turns {
		tells(t, begun(t, d, from(1, 2), turn), nil, 2)
		opens(t, d, from(1, 2), turn, nil, 2)
	}
}

// shut is a device of five blocks whose power is off; block 1 has a part of turn 3, sure, and a write to block 2 waits.
func shut(t *testing.T) *device.Device {
	t.Helper()
	d := made(t, 5)
	lay(d, 1, partBlock(3, 0, 0, 0, "a"))
	d.Write(2, partBlock(3, 1, 0, 0, "b"))
	d.Fuse(0)
	if d.Sync() != api.ErrOff || !d.Off() {
		t.Fatal("the power is on")
	}
	return d
}

func TestWithoutPower(t *testing.T) {
	d := shut(t)
	before := seen(d)
	for _, at := range []api.Extent{from(0, 5), from(1, 1), from(1, 4), from(4, 1)} {
		j, errno := Open(d, at, 3)
		isRefused(t, "Open without power", j, errno, api.ErrOff)
		// Begin reads and writes nothing: the device has nothing to say.
		j = begun(t, d, at, 3)
		tells(t, j, nil, at.Count)
		refuses(t, j, "a", api.ErrOff)
	}
	for _, turn := range []int{0, latest + 1} {
		j, errno := Open(d, from(0, 5), turn)
		isRefused(t, "Open without power, nor turn", j, errno, api.ErrArg)
		j, errno = Begin(d, from(0, 5), turn)
		isRefused(t, "Begin without power, nor turn", j, errno, api.ErrArg)
	}
	for _, at := range []api.Extent{from(0, 6), from(0, 0), from(-1, 2), from(5, 1), from(great, great)} {
		j, errno := Open(d, at, 3)
		isRefused(t, "Open without power, nor blocks", j, errno, api.ErrArg)
		j, errno = Begin(d, at, 3)
		isRefused(t, "Begin without power, nor blocks", j, errno, api.ErrArg)
	}
	isAs(t, "without power", d, before)
	d.Crash([]int{0})
	opens(t, d, from(1, 4), 3, []string{"a", "b"}, 2)
}

func TestPowerIsAskedAheadOfBlocks(t *testing.T) {
	d := shut(t)
	lay(d, 1, strings.Repeat("x", size))
	j, errno := Open(d, from(0, 5), 3)
	isRefused(t, "Open without power, spoilt", j, errno, api.ErrOff)
	j, errno = Open(d, from(1, 1), 3)
	isRefused(t, "Open without power, spoilt", j, errno, api.ErrOff)
	d.Crash(nil)
	j, errno = Open(d, from(1, 1), 3)
	isRefused(t, "Open of a spoilt block", j, errno, api.ErrCorrupt)
}

func TestArgumentsAreAskedAheadOfBlocks(t *testing.T) {
	d := made(t, 3)
	for k := range 3 {
		lay(d, k, strings.Repeat("x", size))
	}
	for _, turn := range noTurns {
		j, errno := Open(d, from(0, 3), turn)
		isRefused(t, "Open of no turn, spoilt", j, errno, api.ErrArg)
	}
	for _, at := range []api.Extent{from(0, 4), from(1, 3), from(3, 1), from(0, 0), from(-1, 2)} {
		j, errno := Open(d, at, 1)
		isRefused(t, "Open of no extent, spoilt", j, errno, api.ErrArg)
	}
}

func TestBeginAndOpenWriteNothing(t *testing.T) {
	d := made(t, 8)
	lay(d, 0, laid(3, rising(200, 1), "b")...)
	d.Write(5, partBlock(3, 5, 0, 0, "c"))
	d.Write(6, partBlock(3, 5, 0, 0, "d"))
	d.Write(5, partBlock(3, 4, 0, 0, "e"))
	before := seen(d)
	d.Fuse(1)
	for _, turn := range []int{1, 3, 4, latest} {
		for _, at := range []api.Extent{from(0, 8), from(0, 4), from(1, 1), from(5, 2), from(7, 1)} {
			tells(t, begun(t, d, at, turn), nil, at.Count)
			isAs(t, "Begin", d, before)
			opened(t, d, at, turn)
			isAs(t, "Open", d, before)
		}
	}
	Begin(d, from(0, 9), 3)
	Open(d, from(0, 9), 3)
	isAs(t, "what was refused", d, before)
	// One more doing was left by the fuse, and is still.
	if d.Sync() != api.OK || d.Sync() != api.ErrOff {
		t.Error("Begin or Open did something")
	}
}

func TestNeeds(t *testing.T) {
	for _, count := range []int{least, least + 1, least + 96, -1 << 32, -8192, -97, -96, -95, -2, -1, 0, widest + 1, widest + 2, widest + 96, 1 << 14, 1 << 31, 1 << 32, 1<<32 + 1, 1<<32 + 96, 1 << 62, great - 96, great - 1, great} {
		if got := Needs(count); got != 0 {
			t.Errorf("Needs(%d): %d", count, got)
		}
	}
	for count, want := range map[int]int{1: 1, 2: 1, 95: 1, 96: 1, 97: 2, 192: 2, 193: 3, 200: 3, 8160: 85, 8161: 86, widest - 1: 86, widest: 86} {
		if got := Needs(count); got != want {
			t.Errorf("Needs(%d): %d, not %d", count, got, want)
		}
	}
	for count := 1; count <= widest; count++ {
		if got, want := Needs(count), len(blocksOf(1, 0, strings.Repeat("x", count))); got != want {
			t.Errorf("Needs(%d): %d, not %d", count, got, want)
		}
	}
}

// opening is blocks of an extent, and the records that they should have in turn 5.
type opening struct {
	what    string
	blocks  []string
	records []string
	room    int
}

// open5 fails if an opening's blocks are opened otherwise, by a device that has them alone, and by one that has others around them.
func (o opening) open5(t *testing.T) {
	t.Helper()
	t.Run(o.what, func(t *testing.T) {
		t.Helper()
		if records, room, errno := meant(o.blocks, 5); !slices.Equal(records, o.records) || room != o.room || errno != api.OK {
			t.Errorf("the words mean %.200q, %d, %d", records, room, errno)
		}
		d := made(t, len(o.blocks))
		lay(d, 0, o.blocks...)
		for range 3 {
			opens(t, d, all(d), 5, o.records, o.room)
		}
		holds(t, d, o.blocks)
		for _, first := range []int{1, 3, 64, 70} {
			d, at := holding(t, first, o.blocks)
			opens(t, d, at, 5, o.records, o.room)
		}
	})
}

func TestOpenOfTurns(t *testing.T) {
	a, b, c := rising(200, 1), "b", rising(96, 2)
	abc := []string{a, b, c}
	now, elder := laid(5, abc...), laid(4, abc...)
	later := laid(6, abc...)
	for _, o := range []opening{
		{"noughts", blanks(1), nil, 1},
		{"many noughts", blanks(70), nil, 70},
		{"this turn", now, abc, 0},
		{"this turn, noughts behind", slices.Concat(now, blanks(3)), abc, 3},
		{"an elder turn alone", elder, nil, 5},
		{"a later turn alone", slices.Concat(later, blanks(1)), nil, 6},
		{"this turn, an elder one behind", slices.Concat(now[:3], elder[3:]), abc[:1], 2},
		{"this turn, a later one behind", slices.Concat(now[:4], later[4:], blanks(2)), abc[:2], 3},
		{"an elder turn, this one behind", slices.Concat(elder[:3], now[3:]), nil, 5},
		{"an elder turn's part, this one's behind", slices.Concat(elder[:1], now[1:]), nil, 5},
		{"noughts, this turn behind", slices.Concat(blanks(1), now[1:]), nil, 5},
		{"noughts in place of a record", slices.Concat(now[:3], blanks(1), now[4:]), abc[:1], 2},
		{"an elder turn in place of a record", slices.Concat(now[:3], elder[3:4], now[4:]), abc[:1], 2},
		{"one record", laid(5, "x"), []string{"x"}, 0},
		{"a turn of more bits", laid(5+1<<32, abc...), nil, 5},
		{"a turn below 0", laid(-5, abc...), nil, 5},
		{"no turn", laid(0, abc...), nil, 5},
	} {
		o.open5(t)
	}
}

func TestOpenOfOtherNumbers(t *testing.T) {
	a, b := rising(200, 1), "b"
	whole := laid(5, a, b, a)
	for _, wrong := range []int{-1, 0, 1, 2, 3, 4, 5, 6, 7, 8, 63, 64, 4095, 4096, 1<<32 + 3, least, great} {
		for at, want := range []int{0, 0, 0, 1, 2, 2, 2} {
			one, _ := toldBy(whole[at])
			if wrong == at {
				continue
			}
			blocks := slices.Clone(whole)
			blocks[at] = partBlock(5, wrong, one.ahead, one.behind, one.bytes)
			what := "block " + strconv.Itoa(at) + " with number " + strconv.Itoa(wrong)
			opening{what, blocks, []string{a, b, a}[:want], []int{7, 4, 3}[want]}.open5(t)
		}
	}
	// All one behind: as of an extent that begins one block further on.
	shifted := blanks(7)
	for k := range 6 {
		one, _ := toldBy(whole[k])
		shifted[k] = partBlock(5, k+1, one.ahead, one.behind, one.bytes)
	}
	opening{"numbers of another extent", shifted, nil, 7}.open5(t)
}

func TestOpenWithoutAPart(t *testing.T) {
	records := []string{"x", rising(300, 1), rising(97, 2)}
	whole := slices.Concat(laid(5, records...), blanks(1))
	other := laid(4, records...)
	for at := range 7 {
		want, room := 0, 8
		switch {
		case at > 4:
			want, room = 2, 3
		case at > 0:
			want, room = 1, 7
		}
		for _, hole := range []string{blank(), other[at], partBlock(6, at, 0, 0, "z"), partBlock(5, at, 86, 86, "z")} {
			blocks := slices.Clone(whole)
			blocks[at] = hole
			opening{"without part " + strconv.Itoa(at), blocks, records[:want], room}.open5(t)
		}
	}
	for lo := range 7 {
		for hi := lo; hi <= 7; hi++ {
			blocks := slices.Concat(whole[:lo], blanks(hi-lo), whole[hi:])
			d := made(t, len(blocks))
			lay(d, 0, blocks...)
			opensAsMeant(t, d, all(d), 5)
		}
	}
}

func TestOpenOfOtherCounts(t *testing.T) {
	records := []string{"x", rising(250, 1), "y"}
	whole := slices.Concat(laid(5, records...), blanks(2))
	want, room := []int{0, 1, 1, 1, 2}, []int{7, 6, 6, 6, 3}
	for at := range 5 {
		right, _ := toldBy(whole[at])
		for ahead := range 5 {
			for _, behind := range []int{0, 1, 2, 3, 4, 85, 86} {
				if ahead == right.ahead && behind == right.behind {
					continue
				}
				blocks := slices.Clone(whole)
				blocks[at] = partBlock(5, at, ahead, behind, right.bytes)
				// A first part that tells of none behind it is whole by itself, and what follows it is none.
				if right.ahead == 0 && ahead == 0 && behind == 0 {
					records := append(slices.Clone(records[:want[at]]), right.bytes)
					opening{"a part by itself", blocks, records, room[at] - 1}.open5(t)
					continue
				}
				what := "part " + strconv.Itoa(at) + " with " + strconv.Itoa(ahead) + " ahead, " + strconv.Itoa(behind) + " behind"
				opening{what, blocks, records[:want[at]], room[at]}.open5(t)
			}
		}
	}
}

func TestOpenOfShortParts(t *testing.T) {
	for _, count := range []int{1, 2, 50, 94, 95} {
		for at := range 4 {
			blocks := laid(5, "x", rising(300, 1))
			blocks[1+at] = partBlock(5, 1+at, at, 3-at, rising(count, 3))
			if at < 3 {
				opening{"a short part ahead of the last", blocks, []string{"x"}, 4}.open5(t)
				continue
			}
			s := rising(300, 1)[:288] + rising(count, 3)
			opening{"a short last part", blocks, []string{"x", s}, 0}.open5(t)
		}
	}
	for _, count := range []int{1, 95, 96} {
		s := rising(96*2+count, 4)
		opening{"a last part of " + strconv.Itoa(count), laid(5, "x", s), []string{"x", s}, 0}.open5(t)
	}
}

func TestOpenUpToTheLastBlock(t *testing.T) {
	a, b := rising(200, 1), rising(300, 2)
	whole := laid(5, a, b)
	opening{"up to the last block", whole, []string{a, b}, 0}.open5(t)
	for cut := 1; cut <= 4; cut++ {
		opening{"behind the last block", whole[:7-cut], []string{a}, 4 - cut}.open5(t)
	}
	for cut := 5; cut < 7; cut++ {
		opening{"behind the last block", whole[:7-cut], nil, 7 - cut}.open5(t)
	}
	// The parts that are missing stand behind the extent, where nobody asks.
	d := made(t, 7)
	lay(d, 0, whole...)
	opens(t, d, from(0, 6), 5, []string{a}, 3)
	opens(t, d, from(0, 3), 5, []string{a}, 0)
	opens(t, d, from(0, 2), 5, nil, 2)
	opens(t, d, from(1, 6), 5, nil, 6)
}

// long are the blocks of parts, as of a record, however many bytes that has.
func long(parts, last int) []string {
	var blocks []string
	for k := range parts {
		count := piece
		if k == parts-1 {
			count = last
		}
		blocks = append(blocks, partBlock(5, k, k, parts-1-k, rising(count, k)))
	}
	return blocks
}

// joined are the bytes of all parts.
func joined(blocks []string) string {
	var s strings.Builder
	for _, one := range blocks {
		part, _ := toldBy(one)
		s.WriteString(part.bytes)
	}
	return s.String()
}

func TestOpenOfTheLongest(t *testing.T) {
	for _, last := range []int{1, 31, 32} {
		blocks := long(86, last)
		opening{"up to 2^13 bytes", slices.Concat(blocks, blanks(1)), []string{joined(blocks)}, 1}.open5(t)
	}
	for _, last := range []int{33, 34, 95, 96} {
		opening{"more than 2^13 bytes", slices.Concat(long(86, last), blanks(1)), nil, 87}.open5(t)
	}
	for _, last := range []int{1, 32, 96} {
		opening{"87 parts", slices.Concat(long(87, last), blanks(1)), nil, 88}.open5(t)
	}
	whole := long(85, 96)
	opening{"85 parts", whole, []string{joined(whole)}, 0}.open5(t)
}

func TestTwoJournals(t *testing.T) {
	d := made(t, 10)
	near, far := from(1, 4), from(5, 4)
	j, k := begun(t, d, near, 5), begun(t, d, far, 5)
	a, b := rising(200, 1), rising(100, 2)
	adds(t, j, a)
	adds(t, k, b)
	adds(t, j, "x")
	adds(t, k, "y", "z")
	tells(t, j, []string{a, "x"}, 0)
	tells(t, k, []string{b, "y", "z"}, 0)
	opens(t, d, near, 5, []string{a, "x"}, 0)
	opens(t, d, far, 5, []string{b, "y", "z"}, 0)
	// Together they are the first one, and blocks whose numbers are others.
	opens(t, d, from(1, 8), 5, []string{a, "x"}, 4)
	holds(t, d, slices.Concat(blanks(1), laid(5, a, "x"), laid(5, b, "y", "z"), blanks(1)))
	// Two of one extent go their own ways, and the device is both's.
	other := begun(t, d, near, 6)
	adds(t, other, b)
	opens(t, d, near, 6, []string{b}, 2)
	opens(t, d, near, 5, nil, 4)
	tells(t, j, []string{a, "x"}, 0)
}

// bad fails if Open takes an extent of these blocks, wherever it lies, and of whatever turn.
func bad(t *testing.T, what string, blocks []string) {
	t.Helper()
	if _, _, errno := meant(blocks, 5); errno != api.ErrCorrupt {
		t.Errorf("%s: the words mean no fault", what)
	}
	d, at := holding(t, 1, blocks)
	for _, turn := range []int{5, 4, 1, latest} {
		j, errno := Open(d, at, turn)
		isRefused(t, what, j, errno, api.ErrCorrupt)
	}
}

// spoilt fails if Open takes this block as the first one of an extent, as one of the midst, as the last one, and behind the last record.
func spoilt(t *testing.T, what string, s string) {
	t.Helper()
	whole := slices.Concat(laid(5, "x", rising(250, 1), "y"), blanks(2))
	for _, at := range []int{0, 1, 2, 4, 5, 6} {
		blocks := slices.Clone(whole)
		blocks[at] = s
		bad(t, what, blocks)
	}
	bad(t, what, []string{s})
}

// turned is a block of which a bit is turned.
func turned(s string, bit int) string {
	bytes := []byte(s)
	bytes[bit/8] ^= 1 << (bit % 8)
	return string(bytes)
}

func TestEachBitThatIsTurned(t *testing.T) {
	for _, s := range []string{blank(), partBlock(5, 0, 0, 0, "x"), partBlock(5, 0, 0, 2, rising(96, 1)), partBlock(latest, 4095, 85, 0, rising(96, 2)), partBlock(5, 0, 0, 0, strings.Repeat("\x00", 96)), partBlock(5, 0, 0, 0, "\x00"), partBlock(least, great, 86, 86, rising(96, 3))} {
		if _, is := toldBy(s); !is && s != blank() {
			t.Fatal("no part's block")
		}
		d := made(t, 1)
		for bit := range 8 * size {
			lay(d, 0, turned(s, bit))
			j, errno := Open(d, from(0, 1), 5)
			isRefused(t, "bit "+strconv.Itoa(bit), j, errno, api.ErrCorrupt)
		}
		lay(d, 0, s)
		opensAsMeant(t, d, from(0, 1), 5)
	}
	s := partBlock(5, 0, 0, 0, "x")
	for _, bit := range []int{0, 8, 16, 24, 32, 40, 48, 72, 79, 80, 81, 512, 1016, 1023} {
		spoilt(t, "bit "+strconv.Itoa(bit), turned(s, bit))
		spoilt(t, "bit "+strconv.Itoa(bit)+" of noughts", turned(blank(), bit))
	}
}

func TestOtherBytesAtEachPlace(t *testing.T) {
	s := partBlock(5, 2, 0, 1, rising(96, 1))
	d := made(t, 1)
	for at := range size {
		for value := range 256 {
			if byte(value) == s[at] {
				continue
			}
			lay(d, 0, s[:at]+string([]byte{byte(value)})+s[at+1:])
			j, errno := Open(d, from(0, 1), 5)
			isRefused(t, "byte "+strconv.Itoa(at), j, errno, api.ErrCorrupt)
		}
	}
}

// anew is a block that is sealed with numbers as they are, of which the last tells how many bytes there should be, and bytes, however many.
func anew(turn, at, ahead, behind, count int, s string) string {
	return sealed(number(turn) + number(at) + number(ahead) + number(behind) + number(count) + s)
}

func TestSealedAnewAndNoPart(t *testing.T) {
	x := rising(96, 1)
	for _, count := range []int{87, 88, 127, 128, 1 << 32, 1 << 62, great, -1, -2, -86, least} {
		spoilt(t, "so many ahead: "+strconv.Itoa(count), anew(5, 0, count, 0, 1, "x"))
		spoilt(t, "so many behind: "+strconv.Itoa(count), anew(5, 0, 0, count, 1, "x"))
		spoilt(t, "so many beside: "+strconv.Itoa(count), anew(5, 0, count, count, 96, x))
	}
	for _, count := range []int{0, -1, -96, least, least + 1} {
		spoilt(t, "so many bytes: "+strconv.Itoa(count), anew(5, 0, 0, 0, count, ""))
		spoilt(t, "so many bytes: "+strconv.Itoa(count), anew(5, 0, 0, 0, count, "x"))
	}
	for _, count := range []int{97, 98, 110, 115} {
		spoilt(t, "so many bytes: "+strconv.Itoa(count), anew(5, 0, 0, 0, count, strings.Repeat("x", count)))
	}
	for _, count := range []int{116, 117, 118, 119, 120, 121, 122, 123, 128, 1 << 32, 1<<32 + 1, 1 << 62, great - 4, great} {
		spoilt(t, "so many bytes: "+strconv.Itoa(count), anew(5, 0, 0, 0, count, x))
	}
	for _, far := range []int{least, great} {
		// Their numbers need so many bytes that a part's do not fit behind them.
		for _, count := range []int{1, 82, 83, 86, 87, 95, 96} {
			spoilt(t, "numbers of ten bytes each", anew(far, far, far, far, count, x[:count]))
			spoilt(t, "numbers of ten bytes each", filled(number(far)+number(far)+number(far)+number(far)+number(count)+x[:count]))
		}
	}
	for _, more := range []string{"x", "\x00", "xx", "\x00\x00\x00\x00"} {
		spoilt(t, "more bytes than it says", anew(5, 0, 0, 0, 1, "x"+more))
		spoilt(t, "noughts sealed in", sealed(number(5)+"\x00\x00\x00\x02x"+more))
	}
	for _, count := range []int{1, 2, 4, 5, 95, 96} {
		spoilt(t, "fewer bytes than it says", anew(5, 0, 0, 0, count, x[:count-1]))
	}
	whole := number(5) + "\x00\x00\x00\x02x"
	spoilt(t, "noughts sealed in, up to the end", whole+strings.Repeat("\x00", 118)+sum(whole + strings.Repeat("\x00", 118))[:4])
	spoilt(t, "noughts ahead of the sum", filled(whole+"\x00"+sum(whole)))
	spoilt(t, "a sum the other way round", filled(whole+backwards(sum(whole))))
	spoilt(t, "no sum", filled(whole))
	spoilt(t, "a sum twice", filled(whole+sum(whole)+sum(whole)))
	spoilt(t, "a byte behind", sealed(whole)[:127]+"x")
	spoilt(t, "nothing that is sealed", filled(sum("")+"x"))
	spoilt(t, "one number alone", sealed(number(5)))
	spoilt(t, "text", strings.Repeat("x", 128))
	spoilt(t, "set bits", strings.Repeat("\xff", 128))
	spoilt(t, "a number without an end", strings.Repeat("\x80", 128))
	spoilt(t, "a fifth number without an end", whole[:4]+strings.Repeat("\x80", 124))
}

func backwards(s string) string {
	bytes := []byte(s)
	slices.Reverse(bytes)
	return string(bytes)
}

func TestNumbersInMoreBytesThanTheyNeed(t *testing.T) {
	numbers := []string{number(5), number(0), number(0), number(0), number(1)}
	for k := range numbers {
		for _, more := range []int{1, 2, 8, 9} {
			wide := []byte(numbers[k])
			wide[0] |= 0x80
			s := string(wide) + strings.Repeat("\x80", more-1) + "\x00"
			text := strings.Join(slices.Concat(numbers[:k], []string{s}, numbers[k+1:]), "") + "x"
			spoilt(t, "number "+strconv.Itoa(k)+" in more bytes", sealed(text))
		}
	}
}

func TestBytesThatEndWithinANumber(t *testing.T) {
	whole := number(latest) + number(4095) + number(64) + number(86) + number(96)
	for cut := range len(whole) {
		spoilt(t, "sealed behind byte "+strconv.Itoa(cut), sealed(whole[:cut]+"\x80"))
		if cut > 0 {
			spoilt(t, "sealed behind byte "+strconv.Itoa(cut), sealed(whole[:cut]))
		}
	}
	// Noughts, sealed, have a sum that is none: the block has bytes, and no part.
	spoilt(t, "no bytes, sealed", filled("\x00\x00\x00\x00\x00"+sum("\x00\x00\x00\x00\x00")))
}

func TestPartsOfWhateverTurnAndNumber(t *testing.T) {
	for _, turn := range slices.Concat(turns, noTurns) {
		for _, number := range []int{least, -1, 0, 1, 2, 3, 63, 64, 4095, 4096, 1 << 32, great} {
			for _, count := range []int{1, 95, 96} {
				foreign := partBlock(turn, number, 86, 86, rising(count, 1))
				for at := range 4 {
					blocks := slices.Concat(laid(5, "x", "y", "z"), blanks(1))
					blocks[at] = foreign
					d, extent := holding(t, 2, blocks)
					opens(t, d, extent, 5, []string{"x", "y", "z"}[:min(at, 3)], 4-min(at, 3))
				}
			}
		}
	}
	for _, count := range []int{0, 1, 85, 86} {
		opening{"so many ahead", []string{anew(5, 0, count, 1, 1, "x")}, nil, 1}.open5(t)
		opening{"so many behind", []string{anew(5, 0, 1, count, 1, "x")}, nil, 1}.open5(t)
	}
}

func TestBlocksBesideAreNotAsked(t *testing.T) {
	for _, count := range []int{1, 2, 5} {
		for first := range 3 {
			d := made(t, 8)
			for k := range 8 {
				lay(d, k, strings.Repeat("x", size))
			}
			lay(d, first, blanks(count)...)
			opens(t, d, from(first, count), 5, nil, count)
			j, errno := Open(d, from(first, count+1), 5)
			isRefused(t, "one more behind", j, errno, api.ErrCorrupt)
			if first > 0 {
				j, errno := Open(d, from(first-1, count), 5)
				isRefused(t, "one more ahead", j, errno, api.ErrCorrupt)
			}
		}
	}
}

// Jo2

func TestAddOfEachLength(t *testing.T) {
	for _, count := range lengths {
		for _, first := range []int{0, 3} {
			d := made(t, 100)
			at := from(first, 90)
			j := begun(t, d, at, 5)
			s := rising(count, count)
			need := (count + 95) / 96
			adds(t, j, s)
			tells(t, j, []string{s}, 90-need)
			waits(t, d)
			holds(t, d, slices.Concat(blanks(first), laid(5, s), blanks(100-first-need)))
			opens(t, d, at, 5, []string{s}, 90-need)
			adds(t, j, "x")
			opens(t, d, at, 5, []string{s, "x"}, 89-need)
		}
	}
}

func TestAddOfNoRecord(t *testing.T) {
	d := made(t, 200)
	d.Write(199, strings.Repeat("x", size))
	before := seen(d)
	j := begun(t, d, from(0, 199), 5)
	for _, count := range []int{0, widest + 1, widest + 2, widest + 96, 2 * widest, 1 << 16} {
		refuses(t, j, strings.Repeat("x", count), api.ErrArg)
	}
	tells(t, j, nil, 199)
	isAs(t, "Add of no record", d, before)
}

func TestAddOfAnyBytes(t *testing.T) {
	d := made(t, 4096)
	j := begun(t, d, all(d), 5)
	var records []string
	for value := range 256 {
		records = append(records, strings.Repeat(string([]byte{byte(value)}), 1+value%200))
	}
	records = append(records, strings.Repeat("\x00", 1), strings.Repeat("\x00", 96), strings.Repeat("\x00", 97), strings.Repeat("\x00", widest), strings.Repeat("\xff", widest), "ä\xc3", blank())
	s := stir(7)
	for _, count := range lengths {
		records = append(records, s.bytes(count))
	}
	adds(t, j, records...)
	used := len(laid(5, records...))
	tells(t, j, records, 4096-used)
	opens(t, d, all(d), 5, records, 4096-used)
	holds(t, d, slices.Concat(laid(5, records...), blanks(4096-used)))
	// A record that looks like a part's block is bytes like others.
	d = made(t, 4)
	j = begun(t, d, all(d), 5)
	adds(t, j, partBlock(5, 1, 0, 0, "x"))
	opens(t, d, all(d), 5, []string{partBlock(5, 1, 0, 0, "x")}, 2)
}

func TestAddUpToTheRoom(t *testing.T) {
	for _, blocks := range []int{1, 2, 3, 7, 85, 86} {
		d := made(t, blocks+2)
		at := from(1, blocks)
		most := min(blocks*piece, widest)
		if most < widest {
			j := begun(t, d, at, 5)
			before := seen(d)
			refuses(t, j, rising(most+1, 1), api.ErrFull)
			refuses(t, j, rising(widest, 1), api.ErrFull)
			isAs(t, "Add without room", d, before)
		}
		j := begun(t, d, at, 6)
		s := rising(most, 2)
		adds(t, j, s)
		tells(t, j, []string{s}, 0)
		before := seen(d)
		refuses(t, j, "x", api.ErrFull)
		refuses(t, j, s, api.ErrFull)
		refuses(t, j, "", api.ErrArg)
		isAs(t, "Add without room", d, before)
		opens(t, d, at, 6, []string{s}, 0)
		// The same, one part a record.
		j = begun(t, d, at, 7)
		var records []string
		for k := range blocks {
			records = append(records, rising(1+k, k))
			adds(t, j, records[k])
			tells(t, j, records, blocks-k-1)
			opens(t, d, at, 7, records, blocks-k-1)
		}
		refuses(t, j, "x", api.ErrFull)
		holds(t, d, slices.Concat(blanks(1), laid(7, records...), blanks(1)))
	}
}

func TestAddToTheGreatestDevice(t *testing.T) {
	d := made(t, 4096)
	j := begun(t, d, all(d), latest)
	var records []string
	for j.Room() >= 86 {
		s := rising(widest-len(records), len(records))
		records = append(records, s)
		adds(t, j, s)
	}
	left := j.Room()
	refuses(t, j, rising(widest, 1), api.ErrFull)
	refuses(t, j, rising(left*96+1, 1), api.ErrFull)
	records = append(records, rising(left*96, 3))
	adds(t, j, records[len(records)-1])
	refuses(t, j, "x", api.ErrFull)
	tells(t, j, records, 0)
	opens(t, d, all(d), latest, records, 0)
	holds(t, d, laid(latest, records...))
}

func TestBlocksOfEachTurnAndNumber(t *testing.T) {
	for _, turn := range turns {
		for _, first := range []int{0, 1, 63, 64} {
			d := made(t, 140)
			at := from(first, 70)
			j := begun(t, d, at, turn)
			var records []string
			for k := range 10 {
				records = append(records, rising(500+k*12, k))
			}
			adds(t, j, records...)
			holds(t, d, slices.Concat(blanks(first), laid(turn, records...), blanks(70-first+70-len(laid(turn, records...)))))
			opens(t, d, at, turn, records, 70-len(laid(turn, records...)))
			for _, other := range turns {
				if other != turn {
					opens(t, d, at, other, nil, 70)
				}
			}
		}
	}
}

func TestWhichErrorOfAdd(t *testing.T) {
	d := shut(t)
	j := begun(t, d, from(1, 2), 3)
	refuses(t, j, "", api.ErrArg)
	refuses(t, j, rising(widest+1, 1), api.ErrArg)
	refuses(t, j, rising(193, 1), api.ErrFull)
	refuses(t, j, rising(widest, 1), api.ErrFull)
	refuses(t, j, rising(192, 1), api.ErrOff)
	refuses(t, j, "x", api.ErrOff)
	d.Crash(nil)
	before := seen(d)
	refuses(t, j, "", api.ErrArg)
	refuses(t, j, rising(widest+1, 1), api.ErrArg)
	refuses(t, j, rising(193, 1), api.ErrFull)
	isAs(t, "what was refused", d, before)
	adds(t, j, rising(192, 1))
	refuses(t, j, "", api.ErrArg)
	refuses(t, j, rising(widest+1, 1), api.ErrArg)
	refuses(t, j, "x", api.ErrFull)
	d.Fuse(0)
	d.Sync()
	refuses(t, j, "", api.ErrArg)
	refuses(t, j, "x", api.ErrFull)
}

func TestWhatIsRefusedDoesNothing(t *testing.T) {
	d := made(t, 6)
	j := begun(t, d, from(1, 3), 5)
	adds(t, j, "a")
	d.Write(0, strings.Repeat("x", size))
	d.Write(4, strings.Repeat("y", size))
	before := seen(d)
	d.Fuse(1)
	for _, s := range []string{"", rising(widest+1, 1)} {
		refuses(t, j, s, api.ErrArg)
	}
	for _, s := range []string{rising(193, 1), rising(widest, 1)} {
		refuses(t, j, s, api.ErrFull)
	}
	isAs(t, "what was refused", d, before)
	if d.Sync() != api.OK || d.Sync() != api.ErrOff {
		t.Error("what was refused did something")
	}
}

func TestFuses(t *testing.T) {
	for _, count := range []int{1, 96, 97, 192, 250, 960} {
		parts := (count + 95) / 96
		for fuse := 0; fuse <= parts+2; fuse++ {
			d := made(t, 16)
			at := from(2, 12)
			j := begun(t, d, at, 5)
			adds(t, j, "a")
			s := rising(count, 1)
			d.Fuse(fuse)
			if fuse > parts {
				adds(t, j, s)
				waits(t, d)
				tells(t, j, []string{"a", s}, 11-parts)
				// As many doings as were left are still.
				for range fuse - parts - 1 {
					if d.Sync() != api.OK {
						t.Error("Add did more than its parts, and one sync")
					}
				}
				if d.Sync() != api.ErrOff {
					t.Error("Add did less than its parts, and one sync")
				}
				continue
			}
			refuses(t, j, s, api.ErrOff)
			tells(t, j, []string{"a"}, 11)
			if !d.Off() {
				t.Error("the power is on")
			}
			var written []int
			for k := range fuse {
				written = append(written, 3+k)
			}
			waits(t, d, written...)
			refuses(t, j, s, api.ErrOff)
			refuses(t, j, "x", api.ErrOff)
			refuses(t, j, "", api.ErrArg)
			refuses(t, j, rising(12*96, 1), api.ErrFull)
			waits(t, d, written...)
			d.Crash(below(fuse))
			holds(t, d, slices.Concat(blanks(2), laid(5, "a"), blocksOf(5, 1, s)[:fuse], blanks(13-fuse)))
		}
	}
}

func TestAddSyncsWhatWaits(t *testing.T) {
	d := made(t, 6)
	d.Write(0, strings.Repeat("x", size))
	j := begun(t, d, from(2, 3), 5)
	adds(t, j, rising(100, 1))
	waits(t, d)
	d.Crash(nil)
	holds(t, d, slices.Concat([]string{strings.Repeat("x", size), blank()}, laid(5, rising(100, 1)), blanks(2)))
}

func TestAddOverWhatStandsThere(t *testing.T) {
	old := laid(4, rising(300, 1), "x", rising(200, 2))
	d, at := holding(t, 3, old)
	outer := seen(d)
	j := opens(t, d, at, 5, nil, 8)
	adds(t, j, rising(100, 3), "y")
	opens(t, d, at, 5, []string{rising(100, 3), "y"}, 5)
	want := slices.Concat(outer.blocks[:3], laid(5, rising(100, 3), "y"), old[3:], outer.blocks[11:])
	holds(t, d, want)
	// Begin over parts of its own turn: they are no records, and the next one stands in their place.
	j = begun(t, d, at, 5)
	tells(t, j, nil, 8)
	adds(t, j, "z")
	tells(t, j, []string{"z"}, 7)
	want[3] = laid(5, "z")[0]
	holds(t, d, want)
	opensAsMeant(t, d, at, 5)
	// Of one part each, what stood behind is told as records again: the chapter promises less here.
	d = made(t, 3)
	adds(t, begun(t, d, all(d), 5), "a", "b", "c")
	adds(t, begun(t, d, all(d), 5), "z")
	opens(t, d, all(d), 5, []string{"z", "b", "c"}, 0)
}

// Jo3

// broken is what a crash may leave of an Add: of records that were added, the next one breaks off at a fuse, and some of its writes survive.
type broken struct {
	first, blocks int
	ahead         []string
	next          string
	fuse          int
	keep          []int
}

// done is the device behind the crash, its extent, and whether all parts of the last record survived.
func (b broken) done(t *testing.T) (*device.Device, api.Extent, bool) {
	t.Helper()
	d := made(t, b.first+b.blocks+1)
	at := from(b.first, b.blocks)
	j := begun(t, d, at, 5)
	adds(t, j, b.ahead...)
	d.Fuse(b.fuse)
	refuses(t, j, b.next, api.ErrOff)
	written := len(d.Waiting())
	d.Crash(b.keep)
	need := len(blocksOf(5, 0, b.next))
	return d, at, written == need && len(b.keep) == need
}

// each goes over each fuse at which an Add breaks off, and each choice of the writes that wait.
func each(ahead []string, next string, first, blocks int) func(func(broken) bool) {
	return func(yield func(broken) bool) {
		for fuse := range len(blocksOf(5, 0, next)) + 1 {
			for bits := range 1 << fuse {
				if !yield(broken{first, blocks, ahead, next, fuse, someOf(bits)}) {
					return
				}
			}
		}
	}
}

func TestEachCrash(t *testing.T) {
	for _, ahead := range [][]string{nil, {"a"}, {rising(200, 1)}, {"a", rising(100, 2), "b"}} {
		used := len(laid(5, ahead...))
		for _, count := range []int{1, 96, 97, 200, 400, 700} {
			next := rising(count, 3)
			need := len(blocksOf(5, 0, next))
			for _, first := range []int{0, 2} {
				for b := range each(ahead, next, first, used+need+first) {
					d, at, whole := b.done(t)
					want, room := ahead, at.Count-used
					if whole {
						want, room = append(slices.Clone(ahead), next), room-need
					}
					opensAsMeant(t, d, at, 5)
					opens(t, d, at, 5, want, room)
					// Open again and again is the same, and a crash beneath takes nothing.
					d.Crash(nil)
					j := opens(t, d, at, 5, want, room)
					if room > 0 {
						adds(t, j, "z")
						want, room = append(slices.Clone(want), "z"), room-1
						d.Crash(nil)
						opens(t, d, at, 5, want, room)
					}
				}
			}
		}
	}
}

func TestSomeCrashesOfALongRecord(t *testing.T) {
	s := stir(11)
	next := rising(widest, 1)
	for round := range 60 {
		fuse := []int{86, 85, 1, 0, s.below(87)}[round%5]
		keep := below(fuse)
		switch round / 5 % 6 {
		case 1:
			keep = nil
		case 2:
			keep = slices.DeleteFunc(keep, func(k int) bool { return k == round%86 })
		case 3:
			keep = slices.DeleteFunc(keep, func(k int) bool { return k != round%86 })
		case 4:
			keep = slices.DeleteFunc(keep, func(int) bool { return s.below(2) == 0 })
		}
		d, at, whole := broken{1, 90, []string{"a"}, next, fuse, keep}.done(t)
		want, room := []string{"a"}, 89
		if whole {
			want, room = []string{"a", next}, 3
		}
		opensAsMeant(t, d, at, 5)
		opens(t, d, at, 5, want, room)
	}
}

func TestAddsGoOnOverWhatWasLeft(t *testing.T) {
	ahead, next := []string{"a"}, rising(250, 1)
	for b := range each(ahead, next, 1, 8) {
		for _, count := range []int{1, 96, 97, 192, 193, 250, 288, 289, 384, 385} {
			d, at, whole := b.done(t)
			want := slices.Clone(ahead)
			if whole {
				want = append(want, next)
			}
			more := rising(count, 4)
			j := opened(t, d, at, 5)
			if Needs(count) > j.Room() {
				refuses(t, j, more, api.ErrFull)
				continue
			}
			adds(t, j, more)
			want = append(want, more)
			room := 8 - len(laid(5, want...))
			tells(t, j, want, room)
			opens(t, d, at, 5, want, room)
			d.Crash(nil)
			opens(t, d, at, 5, want, room)
			opensAsMeant(t, d, at, 5)
			if room > 0 {
				adds(t, j, "z")
				want = append(want, "z")
				opens(t, d, at, 5, want, room-1)
			}
		}
	}
}

// TestBrokenOffAgain breaks off a second record over what the first one left: of another number of parts it is there whole, or not at all. (Of as many parts, blocks of both could make a record: the extent had parts of the turn besides, and the chapter promises no more than the records that were added.)
func TestBrokenOffAgain(t *testing.T) {
	ahead, next := []string{"a"}, rising(250, 1)
	for b := range each(ahead, next, 1, 8) {
		for _, count := range []int{1, 96, 150, 250, 350} {
			again := rising(count, 4)
			need := Needs(count)
			for fuse := range need + 1 {
				for bits := range 1 << fuse {
					d, at, whole := b.done(t)
					want := slices.Clone(ahead)
					if whole {
						want = append(want, next)
					}
					used := len(laid(5, want...))
					j := opened(t, d, at, 5)
					d.Fuse(fuse)
					refuses(t, j, again, api.ErrOff)
					d.Crash(someOf(bits))
					opensAsMeant(t, d, at, 5)
					got := opened(t, d, at, 5).Records()
					if len(got) < len(want) || !slices.Equal(got[:len(want)], want) {
						t.Fatalf("records that were added are gone: %v", lengthsOf(got))
					}
					if need == 3 && !whole {
						continue
					}
					if fuse == need && bits == 1<<need-1 {
						want, used = append(want, again), used+need
					}
					opens(t, d, at, 5, want, 8-used)
				}
			}
		}
	}
}

func TestACrashWhileTheRecordIsCountedByNobody(t *testing.T) {
	d := made(t, 6)
	j := begun(t, d, all(d), 5)
	adds(t, j, "a")
	d.Fuse(2)
	refuses(t, j, rising(150, 1), api.ErrOff)
	// All parts survive, and were not answered by OK: the record is there, whole.
	d.Crash([]int{0, 1})
	tells(t, j, []string{"a"}, 5)
	opens(t, d, all(d), 5, []string{"a", rising(150, 1)}, 3)
}

// Objects that Open and Begin did not give.

func TestJournalsThatNobodyGave(t *testing.T) {
	for _, j := range []*Journal{nil, {}, new(Journal)} {
		for _, s := range []string{"", "x", rising(200, 1), rising(widest, 1), rising(widest+1, 1)} {
			if errno := j.Add(s); errno != api.ErrArg {
				t.Errorf("Add of %d bytes: %d", len(s), errno)
			}
			if l := j.Records(); len(l) != 0 {
				t.Errorf("Records: %q", l)
			}
			if room := j.Room(); room != 0 {
				t.Errorf("Room: %d", room)
			}
		}
	}
}

// R1 to R4

func TestRecordsAreNewMemory(t *testing.T) {
	d := made(t, 8)
	j := begun(t, d, all(d), 5)
	adds(t, j, "a", "b", "c")
	for _, one := range []*Journal{j, opened(t, d, all(d), 5)} {
		l, other := one.Records(), one.Records()
		l[0], l[2] = "x", "y"
		_ = append(l[:1], "z")
		if !slices.Equal(other, []string{"a", "b", "c"}) {
			t.Errorf("a list that was told ahead: %q", other)
		}
		tells(t, one, []string{"a", "b", "c"}, 5)
		early := one.Records()
		grown := append(early, "mine")
		adds(t, one, "d")
		if len(early) != 3 || grown[3] != "mine" {
			t.Errorf("a list that was told ahead grew: %q, %q", early, grown)
		}
		tells(t, one, []string{"a", "b", "c", "d"}, 4)
	}
}

func TestBytesBehindATextAreNotRead(t *testing.T) {
	around := rising(9000, 9)
	for _, count := range []int{1, 95, 96, 97, 200} {
		for _, first := range []int{0, 1, 77} {
			d := made(t, 6)
			s := around[first : first+count]
			j := begun(t, d, from(1, 4), 5)
			adds(t, j, s)
			holds(t, d, slices.Concat(blanks(1), laid(5, s), blanks(5-Needs(count))))
		}
	}
}

// TestEachHangsOnItsOwn holds journals against each other that came by other ways to the same blocks.
func TestEachHangsOnItsOwn(t *testing.T) {
	one, two := made(t, 8), made(t, 8)
	at := from(1, 6)
	j := begun(t, one, at, 5)
	adds(t, j, "a", rising(100, 1))
	k := begun(t, two, at, 5)
	refuses(t, k, "", api.ErrArg)
	adds(t, k, "a")
	k = opened(t, two, at, 5)
	refuses(t, k, rising(600, 1), api.ErrFull)
	adds(t, k, rising(100, 1))
	holds(t, two, seen(one).blocks)
	tells(t, k, j.Records(), j.Room())
}

func TestAnyArguments(t *testing.T) {
	s := stir(3)
	d := made(t, 12)
	numbers := []int{least, -1, 0, 1, 2, 3, 5, 6, 11, 12, 13, latest, latest + 1, great}
	pick := func() int { return numbers[s.below(len(numbers))] }
	for range 20000 {
		at, turn := from(pick(), pick()), pick()
		is := at.First >= 0 && at.First < 12 && at.Count >= 1 && at.Count <= 12-at.First && turn >= 1 && turn <= latest
		if s.below(10) == 0 {
			lay(d, s.below(12), []string{blank(), partBlock(pick(), pick(), s.below(3), s.below(3), s.bytes(1+s.below(96)))}[s.below(2)])
		}
		j, errno := Begin(d, at, turn)
		if is != (errno == api.OK) || is != (j != nil) || !is && errno != api.ErrArg {
			t.Fatalf("Begin(%v, %d): %v, %d", at, turn, j != nil, errno)
		}
		j, errno = Open(d, at, turn)
		if !is {
			isRefused(t, "Open", j, errno, api.ErrArg)
			continue
		}
		opensAsMeant(t, d, at, turn)
		if s.below(4) == 0 {
			j.Add(s.bytes(s.below(300)))
		}
	}
}

// kept is a journal beside what it should be: on a device of its own, that is written by the chapter's words.
type kept struct {
	j       *Journal
	at      api.Extent
	turn    int
	records []string
}

func (k kept) used() int { return len(laid(k.turn, k.records...)) }

// TestLongScripts lets journals of several turns and extents go on in one device, that crashes now and again, and holds it against a twin.
func TestLongScripts(t *testing.T) {
	for seed := range 40 {
		script(t, stir(seed), 300)
	}
}

func script(t *testing.T, s *stirrer, doings int) {
	t.Helper()
	d, twin := made(t, 14), made(t, 14)
	places := []api.Extent{from(0, 5), from(5, 8), from(13, 1)}
	all := make([]kept, len(places))
	anew := func(k, turn int) {
		all[k] = kept{at: places[k], turn: turn}
		all[k].records, _, _ = meant(blocksIn(t, d, places[k]), turn)
		all[k].j = opens(t, d, places[k], turn, all[k].records, places[k].Count-all[k].used())
	}
	for k := range places {
		anew(k, 1)
	}
	for range doings {
		k := s.below(len(places))
		switch s.below(8) {
		case 0:
			fuse := s.below(8)
			d.Fuse(fuse)
			twin.Fuse(fuse)
		case 1:
			keep := someOf(s.below(1 << min(20, len(d.Waiting()))))
			d.Crash(keep)
			twin.Crash(keep)
			for k := range places {
				anew(k, all[k].turn)
			}
		case 2:
			if !d.Off() && all[k].used() > places[k].Count*2/3 {
				anew(k, all[k].turn+1)
			}
		default:
			text := s.bytes(s.below(200) * (s.below(8) / 2))
			want := addedTo(twin, places[k], all[k].turn, all[k].used(), text)
			if errno := all[k].j.Add(text); errno != want {
				t.Fatalf("Add of %d bytes: %d, not %d", len(text), errno, want)
			}
			if want == api.OK {
				all[k].records = append(all[k].records, text)
			}
		}
		tells(t, all[k].j, all[k].records, places[k].Count-all[k].used())
		isAs(t, "the device", d, seen(twin))
	}
}
