package journal

import (
	"encoding/binary"
	"hash/crc32"
	"math"
	"peristyle/api"
	"peristyle/device"
	"slices"
	"strings"
	"testing"
)

const (
	size   = 128     // bytes of a block
	piece  = 96      // bytes of a part
	widest = 1 << 13 // bytes of a record, at most
	latest = 1 << 32 // the last turn
	least  = math.MinInt
	great  = math.MaxInt
)

// turns are some that are, of one byte to five; noTurns are numbers that are none, some of which are like one in fewer bits.
var (
	turns   = []int{1, 2, 3, 63, 64, 65, 8191, 8192, 1<<20 - 1, 1 << 20, 1<<27 - 1, 1 << 27, 1 << 31, latest - 1, latest}
	noTurns = []int{least, least + 1, -latest, -1 << 31, -2, -1, 0, latest + 1, latest + 2, 2 * latest, 1 << 62, great - 1, great}
)

// lengths are those of records at the edges of their parts.
var lengths = []int{1, 2, 8, 95, 96, 97, 191, 192, 193, 200, 288, 289, 8064, 8065, 8159, 8160, 8161, widest - 1, widest}

// stirrer gives numbers by a fixed rule.
type stirrer struct{ word uint64 }

func stir(seed int) *stirrer { return &stirrer{uint64(seed)*2 + 1} }

func (s *stirrer) below(n int) int {
	s.word = s.word*6364136223846793005 + 1442695040888963407
	return int(s.word >> 33 % uint64(n))
}

// bytes are so many, of any value.
func (s *stirrer) bytes(count int) string {
	made := make([]byte, count)
	for k := range made {
		made[k] = byte(s.below(256))
	}
	return string(made)
}

// rising is a text of so many bytes, no two beside each other alike, none of them noughts, unlike for unlike seeds.
func rising(count, seed int) string {
	made := make([]byte, count)
	for k := range made {
		made[k] = byte(1 + (7*k+31*seed+k/piece)%255)
	}
	return string(made)
}

// blank is a block of noughts.
func blank() string { return strings.Repeat("\x00", size) }

// number are a number's bytes, by the library: groups of seven bits, the lowest first, of the number that is turned so that its sign is the lowest bit.
func number(n int) string { return string(binary.AppendVarint(nil, int64(n))) }

// sum are the four bytes of the sum of a text, by the library.
func sum(s string) string {
	return string(binary.LittleEndian.AppendUint32(nil, crc32.Checksum([]byte(s), crc32.MakeTable(crc32.Castagnoli))))
}

// filled is a text with noughts behind it, up to a block, or its first bytes, if it has more.
func filled(s string) string { return (s + blank())[:size] }

// sealed is a block of a text that is sealed, whatever stands in it.
func sealed(s string) string { return filled(s + sum(s)) }

// partBlock is a part's block by the chapter's words.
func partBlock(turn, at, ahead, behind int, s string) string {
	return sealed(number(turn) + number(at) + number(ahead) + number(behind) + number(len(s)) + s)
}

// blocksOf are those of a record whose first part stands in the block first, by the chapter's words.
func blocksOf(turn, first int, s string) []string {
	var cuts []string
	for len(s) > piece {
		cuts, s = append(cuts, s[:piece]), s[piece:]
	}
	cuts = append(cuts, s)
	var blocks []string
	for k, one := range cuts {
		blocks = append(blocks, partBlock(turn, first+k, k, len(cuts)-k-1, one))
	}
	return blocks
}

// laid are the blocks of records, one behind the other, from the block 0 on.
func laid(turn int, records ...string) []string {
	var blocks []string
	for _, s := range records {
		blocks = append(blocks, blocksOf(turn, len(blocks), s)...)
	}
	return blocks
}

// told is what a part's block tells.
type told struct {
	turn, at, ahead, behind int
	bytes                   string
}

// toldBy reads a part's block by the chapter's words, byte by byte: whether it is one, too.
func toldBy(s string) (told, bool) {
	rest := s
	var all [5]int
	for k := range all {
		n, used := binary.Varint([]byte(rest))
		if used <= 0 || number(int(n)) != rest[:used] {
			return told{}, false
		}
		all[k], rest = int(n), rest[used:]
	}
	ahead, behind, count := all[2], all[3], all[4]
	if ahead < 0 || ahead > 86 || behind < 0 || behind > 86 || count < 1 || count > piece || len(rest) < count+4 {
		return told{}, false
	}
	end := len(s) - len(rest) + count
	if s[end:end+4] != sum(s[:end]) || strings.Trim(s[end+4:], "\x00") != "" {
		return told{}, false
	}
	return told{all[0], all[1], ahead, behind, rest[:count]}, true
}

// meant are the records of a turn in an extent's blocks by the chapter's words, and how many blocks lie behind the last one's; or that a block is none.
func meant(blocks []string, turn int) (records []string, room int, errno api.Errno) {
	parts := make([]told, len(blocks))
	for k, s := range blocks {
		one, is := toldBy(s)
		if !is && s != blank() {
			return nil, 0, api.ErrCorrupt
		}
		parts[k] = one
	}
	at := 0
	for {
		s := meantAt(parts, turn, at)
		if s == "" {
			return records, len(blocks) - at, api.OK
		}
		records = append(records, s)
		at += (len(s) + piece - 1) / piece
	}
}

// meantAt is the record that begins in a block: each number of parts that it could have is tried; no bytes, if there is none.
func meantAt(parts []told, turn, at int) string {
	for count := 1; count <= 86 && at+count <= len(parts); count++ {
		s := ""
		for k := range count {
			one, last := parts[at+k], k == count-1
			if one.turn != turn || one.at != at+k || one.ahead != k || one.behind != count-1-k || !last && len(one.bytes) != piece {
				s = ""
				break
			}
			s += one.bytes
		}
		if s != "" && len(s) <= widest {
			return s
		}
	}
	return ""
}

// made is a device of so many blocks.
func made(t *testing.T, count int) *device.Device {
	t.Helper()
	d, errno := device.New(count)
	if errno != api.OK {
		t.Fatalf("device.New(%d): %d", count, errno)
	}
	return d
}

// from is an extent.
func from(first, count int) api.Extent { return api.Extent{First: first, Count: count} }

// holding is a device whose blocks from one on are these, sure, between blocks that are neither noughts nor parts'; and their extent.
func holding(t *testing.T, first int, blocks []string) (*device.Device, api.Extent) {
	t.Helper()
	d := made(t, first+len(blocks)+2)
	for k := range d.Size() {
		d.Spoil(k, strings.Repeat("x", size))
	}
	lay(d, first, blocks...)
	return d, from(first, len(blocks))
}

// lay lets blocks from one on be these, sure.
func lay(d *device.Device, first int, blocks ...string) {
	for k, s := range blocks {
		d.Spoil(first+k, s)
	}
}

// blanks are so many blocks of noughts.
func blanks(count int) []string { return slices.Repeat([]string{blank()}, count) }

// blocksIn are the blocks of an extent, of a device whose power is on.
func blocksIn(t *testing.T, d *device.Device, at api.Extent) []string {
	t.Helper()
	var blocks []string
	for k := range at.Count {
		s, errno := d.Read(at.First + k)
		if errno != api.OK {
			t.Fatalf("Read(%d): %d", at.First+k, errno)
		}
		blocks = append(blocks, s)
	}
	return blocks
}

// all is the extent of all blocks.
func all(d *device.Device) api.Extent { return from(0, d.Size()) }

// below are the numbers from 0 on, so many.
func below(count int) []int {
	var l []int
	for k := range count {
		l = append(l, k)
	}
	return l
}

// someOf are the numbers whose bits are set.
func someOf(bits int) []int {
	var l []int
	for k := range 62 {
		if bits>>k&1 == 1 {
			l = append(l, k)
		}
	}
	return l
}

// begun is a journal that Begin gave.
func begun(t *testing.T, d *device.Device, at api.Extent, turn int) *Journal {
	t.Helper()
	j, errno := Begin(d, at, turn)
	if j == nil || errno != api.OK {
		t.Fatalf("Begin(%v, %d): %v, %d", at, turn, j, errno)
	}
	return j
}

// opened is a journal that Open gave.
func opened(t *testing.T, d *device.Device, at api.Extent, turn int) *Journal {
	t.Helper()
	j, errno := Open(d, at, turn)
	if j == nil || errno != api.OK {
		t.Fatalf("Open(%v, %d): %v, %d", at, turn, j, errno)
	}
	return j
}

// adds fails if a record is not added.
func adds(t *testing.T, j *Journal, records ...string) {
	t.Helper()
	for _, s := range records {
		if errno := j.Add(s); errno != api.OK {
			t.Fatalf("Add of %d bytes: %d", len(s), errno)
		}
	}
}

// refuses fails if Add answers another error than this one, or tells of another journal behind it.
func refuses(t *testing.T, j *Journal, s string, want api.Errno) {
	t.Helper()
	records, room := j.Records(), j.Room()
	if errno := j.Add(s); errno != want {
		t.Errorf("Add of %d bytes: %d, not %d", len(s), errno, want)
	}
	tells(t, j, records, room)
}

// tells fails if a journal has other records, or another room.
func tells(t *testing.T, j *Journal, records []string, room int) {
	t.Helper()
	if got := j.Records(); !slices.Equal(got, records) {
		t.Errorf("Records: of lengths %v, not %v: %.300q, not %.300q", lengthsOf(got), lengthsOf(records), got, records)
	}
	if got := j.Room(); got != room {
		t.Errorf("Room: %d, not %d", got, room)
	}
}

// opens fails if a journal, opened, has other records, or another room.
func opens(t *testing.T, d *device.Device, at api.Extent, turn int, records []string, room int) *Journal {
	t.Helper()
	j := opened(t, d, at, turn)
	tells(t, j, records, room)
	return j
}

// isRefused fails if what gave an error gave a journal beside it, or another error.
func isRefused(t *testing.T, what string, j *Journal, got, want api.Errno) {
	t.Helper()
	if j != nil || got != want {
		t.Errorf("%s: %v, %d, not %d", what, j != nil, got, want)
	}
}

// opensAsMeant fails if Open answers otherwise than the chapter's words about the extent's blocks.
func opensAsMeant(t *testing.T, d *device.Device, at api.Extent, turn int) {
	t.Helper()
	records, room, want := meant(blocksIn(t, d, at), turn)
	j, errno := Open(d, at, turn)
	if errno != want || (j == nil) != (want != api.OK) {
		t.Fatalf("Open(%v, %d): %v, %d, not %d", at, turn, j != nil, errno, want)
	}
	if want == api.OK {
		tells(t, j, records, room)
	}
}

// lengthsOf are how many bytes each text has.
func lengthsOf(l []string) []int {
	var counts []int
	for _, s := range l {
		counts = append(counts, len(s))
	}
	return counts
}

// waits fails if other writes wait.
func waits(t *testing.T, d *device.Device, want ...int) {
	t.Helper()
	if got := d.Waiting(); !slices.Equal(got, want) {
		t.Errorf("Waiting: %v, not %v", got, want)
	}
}

// holds fails if the blocks of a device are not these, one behind the other.
func holds(t *testing.T, d *device.Device, want []string) {
	t.Helper()
	for k, s := range blocksIn(t, d, all(d)) {
		if s != want[k] {
			t.Errorf("block %d: %q, not %q", k, s, want[k])
		}
	}
}

// seenIn are a device's blocks, and the writes that wait.
type seenIn struct {
	blocks  []string
	waiting []int
	off     bool
}

// seen is what a device tells.
func seen(d *device.Device) seenIn {
	made := seenIn{waiting: d.Waiting(), off: d.Off()}
	for k := range d.Size() {
		s, _ := d.Read(k)
		made.blocks = append(made.blocks, s)
	}
	return made
}

// isAs fails if a device tells otherwise than it did.
func isAs(t *testing.T, what string, d *device.Device, want seenIn) {
	t.Helper()
	got := seen(d)
	if !slices.Equal(got.blocks, want.blocks) || !slices.Equal(got.waiting, want.waiting) || got.off != want.off {
		t.Errorf("%s: the device waits for %v, off %v, not %v, %v; blocks alike: %v", what, got.waiting, got.off, want.waiting, want.off, slices.Equal(got.blocks, want.blocks))
	}
}

// addedTo is what Add does to a device, by the chapter's words: the blocks behind used ones of an extent are written, one behind the other, and synced.
func addedTo(d *device.Device, at api.Extent, turn, used int, s string) api.Errno {
	if len(s) < 1 || len(s) > widest {
		return api.ErrArg
	}
	blocks := blocksOf(turn, used, s)
	if len(blocks) > at.Count-used {
		return api.ErrFull
	}
	for k, one := range blocks {
		if d.Write(at.First+used+k, one) != api.OK {
			return api.ErrOff
		}
	}
	if d.Sync() != api.OK {
		return api.ErrOff
	}
	return api.OK
}
