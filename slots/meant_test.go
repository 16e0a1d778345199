package slots

import (
	"encoding/binary"
	"hash/crc32"
	"math"
	"peristyle/api"
	"peristyle/device"
	"slices"
	"strings"
	"testing"
)

const (
	size   = 128     // bytes of a block
	latest = 1 << 32 // the last turn
	least  = math.MinInt
	great  = math.MaxInt
)

// turns are some that are, of one byte to five; noTurns are numbers that are none, some of which are like one in fewer bits.
var (
	turns   = []int{1, 2, 3, 4, 63, 64, 65, 8191, 8192, 1<<20 - 1, 1 << 20, 1<<27 - 1, 1 << 27, 1 << 31, latest - 1, latest}
	noTurns = []int{least, least + 1, -latest, -1 << 31, -2, -1, 0, latest + 1, latest + 2, 2 * latest, 1 << 62, great - 1, great}
)

// anyInts are numbers of each count of bytes, below 0, too.
var anyInts = []int{least, least + 1, -1 << 62, -latest - 1, -latest, -8193, -8192, -129, -65, -64, -2, -1, 0, 1, 2, 3, 63, 64, 127, 128, 8191, 8192, 1 << 20, 1 << 27, latest - 1, latest, latest + 1, 1 << 34, 1 << 41, 1 << 48, 1 << 55, 1 << 62, great - 1, great}

// stirrer gives numbers by a fixed rule.
type stirrer struct{ word uint64 }

func stir(seed int) *stirrer { return &stirrer{uint64(seed)*2 + 1} }

func (s *stirrer) below(n int) int {
	s.word = s.word*6364136223846793005 + 1442695040888963407
	return int(s.word >> 33 % uint64(n))
}

// bytes are so many, of any value.
func (s *stirrer) bytes(count int) string {
	made := make([]byte, count)
	for k := range made {
		made[k] = byte(s.below(256))
	}
	return string(made)
}

// some are any of the numbers below a count.
func (s *stirrer) some(count int) []int {
	var l []int
	for k := range count {
		if s.below(2) == 1 {
			l = append(l, k)
		}
	}
	return l
}

// of is one of some numbers.
func (s *stirrer) of(l ...int) int { return l[s.below(len(l))] }

// rising is a text of so many bytes, no two beside each other alike, none of them noughts, unlike for unlike seeds.
func rising(count, seed int) string {
	made := make([]byte, count)
	for k := range made {
		made[k] = byte(1 + (7*k+31*seed+k/size)%255)
	}
	return string(made)
}

// blank is a block of noughts.
func blank() string { return strings.Repeat("\x00", size) }

// blanks are so many blocks of noughts.
func blanks(count int) []string { return slices.Repeat([]string{blank()}, count) }

// number are a number's bytes, by the library: groups of seven bits, the lowest first, of the number that is turned so that its sign is the lowest bit.
func number(n int) string { return string(binary.AppendVarint(nil, int64(n))) }

// sumOf is the sum of a text, by the library.
func sumOf(s string) int {
	return int(crc32.Checksum([]byte(s), crc32.MakeTable(crc32.Castagnoli)))
}

// sealed is a block of a text that is sealed, whatever stands in it, noughts behind; or its first bytes, if it has more.
func sealed(s string) string {
	s += string(binary.LittleEndian.AppendUint32(nil, uint32(sumOf(s))))
	return (s + blank())[:size]
}

// told is what a slot's block tells.
type told struct{ turn, first, count, bytes, sum int }

// block are the bytes that tell it, by the chapter's words, whatever the numbers.
func (w told) block() string {
	return sealed(number(w.turn) + number(w.first) + number(w.count) + number(w.bytes) + number(w.sum))
}

// telling is what the slot of a turn tells of bytes in an extent.
func telling(at api.Extent, turn int, s string) told {
	return told{turn, at.First, at.Count, len(s), sumOf(s)}
}

// blocksOf are the blocks of an extent of so many, that has these bytes.
func blocksOf(count int, s string) []string {
	s += strings.Repeat("\x00", count*size-len(s))
	var blocks []string
	for k := range count {
		blocks = append(blocks, s[k*size:(k+1)*size])
	}
	return blocks
}

// toldBy reads a slot's block by the chapter's words, byte by byte: whether it is one, too.
func toldBy(s string) (told, bool) {
	var all [5]int
	rest := s
	for k := range all {
		n, used := binary.Varint([]byte(rest))
		if used <= 0 || number(int(n)) != rest[:used] {
			return told{}, false
		}
		all[k], rest = int(n), rest[used:]
	}
	end := len(s) - len(rest)
	if sealed(s[:end]) != s {
		return told{}, false
	}
	return told{all[0], all[1], all[2], all[3], all[4]}, true
}

// isOf tells whether what a slot tells may stand in that slot of a device of so many blocks.
func (w told) isOf(place, blocks int) bool {
	switch {
	case w.turn < 1, w.turn > latest, (w.turn%2 == 0) != (place == 0):
		return false
	case w.first < 2, w.first >= blocks, w.count < 1, w.count > blocks, w.first+w.count > blocks:
		return false
	}
	return w.bytes >= 0 && w.bytes <= w.count*size && w.sum >= 0 && w.sum < 1<<32
}

// answer is what Read answers.
type answer struct {
	s     string
	at    api.Extent
	turn  int
	errno api.Errno
}

// reading is what Read answers of a device.
func reading(d *device.Device) answer {
	s, at, turn, errno := Read(d)
	return answer{s, at, turn, errno}
}

// failing is an answer of an error.
func failing(errno api.Errno) answer { return answer{errno: errno} }

// meant is what Read answers of a device's blocks by the chapter's words.
func meant(blocks []string) answer {
	if len(blocks) < 2 {
		return failing(api.ErrArg)
	}
	var last told
	for place := range 2 {
		one, is := toldBy(blocks[place])
		switch {
		case blocks[place] == blank():
		case !is || !one.isOf(place, len(blocks)):
			return failing(api.ErrCorrupt)
		case one.turn > last.turn:
			last = one
		}
	}
	if last.turn == 0 {
		return failing(api.ErrNone)
	}
	all := strings.Join(blocks[last.first:last.first+last.count], "")
	s, behind := all[:last.bytes], all[last.bytes:]
	if sumOf(s) != last.sum || behind != strings.Repeat("\x00", len(behind)) {
		return failing(api.ErrCorrupt)
	}
	return answer{s, from(last.first, last.count), last.turn, api.OK}
}

// mayLay tells whether the chapter's words refuse no argument of Lay.
func mayLay(d *device.Device, at api.Extent, turn int, s string) bool {
	if turn < 1 || turn > latest || at.First < 2 || at.First >= d.Size() || at.Count < 1 || at.Count > d.Size() {
		return false
	}
	return at.First+at.Count <= d.Size() && len(s) <= at.Count*size
}

// laysOn is what Lay does to a device, by the chapter's words.
func laysOn(d *device.Device, at api.Extent, turn int, s string) api.Errno {
	if !mayLay(d, at, turn, s) {
		return api.ErrArg
	}
	for k, one := range blocksOf(at.Count, s) {
		if d.Write(at.First+k, one) != api.OK {
			return api.ErrOff
		}
	}
	if d.Sync() != api.OK {
		return api.ErrOff
	}
	place := 1
	if turn%2 == 0 {
		place = 0
	}
	if d.Write(place, telling(at, turn, s).block()) != api.OK || d.Sync() != api.OK {
		return api.ErrOff
	}
	return api.OK
}

// made is a device of so many blocks.
func made(t *testing.T, count int) *device.Device {
	t.Helper()
	d, errno := device.New(count)
	if errno != api.OK {
		t.Fatalf("device.New(%d): %d", count, errno)
	}
	return d
}

// holding is a device whose blocks are these, sure.
func holding(t *testing.T, blocks []string) *device.Device {
	t.Helper()
	d := made(t, len(blocks))
	for k, s := range blocks {
		d.Spoil(k, s)
	}
	return d
}

// from is an extent.
func from(first, count int) api.Extent { return api.Extent{First: first, Count: count} }

// blocksIn are a device's blocks; its power is on.
func blocksIn(t *testing.T, d *device.Device) []string {
	t.Helper()
	var blocks []string
	for k := range d.Size() {
		s, errno := d.Read(k)
		if errno != api.OK {
			t.Fatalf("Read(%d): %d", k, errno)
		}
		blocks = append(blocks, s)
	}
	return blocks
}

// below are the numbers from 0 on, so many.
func below(count int) []int {
	var l []int
	for k := range count {
		l = append(l, k)
	}
	return l
}

// someOf are the numbers whose bits are set.
func someOf(bits int) []int {
	var l []int
	for k := range 62 {
		if bits>>k&1 == 1 {
			l = append(l, k)
		}
	}
	return l
}

// lays fails if Lay is refused.
func lays(t *testing.T, d *device.Device, at api.Extent, turn int, s string) {
	t.Helper()
	if errno := Lay(d, at, turn, s); errno != api.OK {
		t.Fatalf("Lay(%v, %d, %d bytes): %d", at, turn, len(s), errno)
	}
}

// refuses fails if Lay answers another error than this one, or if the device tells otherwise behind it.
func refuses(t *testing.T, d *device.Device, at api.Extent, turn int, s string, want api.Errno) {
	t.Helper()
	before := seen(d)
	if errno := Lay(d, at, turn, s); errno != want {
		t.Errorf("Lay(%v, %d, %d bytes): %d, not %d", at, turn, len(s), errno, want)
	}
	isAs(t, "Lay that is refused", d, before)
}

// reads fails if Read answers otherwise.
func reads(t *testing.T, what string, d *device.Device, want answer) {
	t.Helper()
	if got := reading(d); got != want {
		t.Errorf("%s: Read: %d bytes %.40q, %v, %d, %d, not %d bytes %.40q, %v, %d, %d", what,
			len(got.s), got.s, got.at, got.turn, got.errno, len(want.s), want.s, want.at, want.turn, want.errno)
	}
}

// readsAsMeant fails if Read answers otherwise than the chapter's words about the device's blocks, or does something.
func readsAsMeant(t *testing.T, what string, d *device.Device) answer {
	t.Helper()
	before := seen(d)
	want := meant(blocksIn(t, d))
	for range 2 {
		reads(t, what, d, want)
	}
	isAs(t, what, d, before)
	return want
}

// fails fails if blocks are not read as an error, by the words and by Read.
func fails(t *testing.T, what string, blocks []string, want api.Errno) {
	t.Helper()
	if got := meant(blocks); got != failing(want) {
		t.Errorf("%s: the words mean %.40q, %v, %d, %d", what, got.s, got.at, got.turn, got.errno)
	}
	reads(t, what, holding(t, blocks), failing(want))
}

// gives fails if blocks are not read as bytes, by the words and by Read.
func gives(t *testing.T, what string, blocks []string, want answer) {
	t.Helper()
	if got := meant(blocks); got != want {
		t.Errorf("%s: the words mean %.40q, %v, %d, %d", what, got.s, got.at, got.turn, got.errno)
	}
	reads(t, what, holding(t, blocks), want)
}

// waits fails if other writes wait.
func waits(t *testing.T, what string, d *device.Device, want []int) {
	t.Helper()
	if got := d.Waiting(); !slices.Equal(got, want) {
		t.Errorf("%s: Waiting: %v, not %v", what, got, want)
	}
}

// holds fails if the blocks of a device are not these, one behind the other.
func holds(t *testing.T, what string, d *device.Device, want []string) {
	t.Helper()
	for k, s := range blocksIn(t, d) {
		if s != want[k] {
			t.Errorf("%s: block %d: %q, not %q", what, k, s, want[k])
		}
	}
}

// seenIn are a device's blocks, and the writes that wait.
type seenIn struct {
	blocks  []string
	waiting []int
	off     bool
}

// seen is what a device tells.
func seen(d *device.Device) seenIn {
	made := seenIn{waiting: d.Waiting(), off: d.Off()}
	for k := range d.Size() {
		s, _ := d.Read(k)
		made.blocks = append(made.blocks, s)
	}
	return made
}

// isAs fails if a device tells otherwise than it did.
func isAs(t *testing.T, what string, d *device.Device, want seenIn) {
	t.Helper()
	got := seen(d)
	if !slices.Equal(got.blocks, want.blocks) || !slices.Equal(got.waiting, want.waiting) || got.off != want.off {
		t.Errorf("%s: the device waits for %v, off %v, not %v, %v; blocks alike: %v", what, got.waiting, got.off, want.waiting, want.off, slices.Equal(got.blocks, want.blocks))
	}
}

// with are blocks of which one is another.
func with(blocks []string, at int, s string) []string {
	made := slices.Clone(blocks)
	made[at] = s
	return made
}

// turned is a text with one bit turned.
func turned(s string, bit int) string {
	made := []byte(s)
	made[bit/8] ^= 1 << (bit % 8)
	return string(made)
}

// twoLaid are the blocks of a device of 12 on which two turns were laid: 7, then 8; the bytes of both end within a block, a block of noughts is behind.
func twoLaid() []string {
	elder, newer := rising(200, 1), rising(300, 2)
	blocks := blanks(12)
	copy(blocks[2:], blocksOf(3, elder))
	copy(blocks[6:], blocksOf(4, newer))
	blocks[1] = telling(from(2, 3), 7, elder).block()
	blocks[0] = telling(from(6, 4), 8, newer).block()
	return blocks
}

// eighth is what Read answers of twoLaid.
func eighth() answer { return answer{rising(300, 2), from(6, 4), 8, api.OK} }

// seventh is what Read answers of twoLaid, if block 0 were noughts.
func seventh() answer { return answer{rising(200, 1), from(2, 3), 7, api.OK} }
