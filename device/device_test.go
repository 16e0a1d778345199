package device

import (
	"math"
	"peristyle/api"
	"slices"
	"strconv"
	"strings"
	"testing"
)

// filled are the bytes of a block, all of them c.
func filled(c byte) string { return strings.Repeat(string([]byte{c}), 128) }

// rising are the bytes of a block, no two beside each other alike, so that a byte out of its place is told.
func rising(first int) string {
	bytes := make([]byte, 128)
	for k := range bytes {
		bytes[k] = byte(first + 7*k)
	}
	return string(bytes)
}

func noughts() string { return filled(0) }

// made is a device of n blocks.
func made(t *testing.T, n int) *Device {
	t.Helper()
	d, errno := New(n)
	if d == nil || errno != api.OK {
		t.Fatalf("New(%d): %v, %d", n, d, errno)
	}
	return d
}

// ok fails if a call was refused.
func ok(t *testing.T, what string, errno api.Errno) {
	t.Helper()
	if errno != api.OK {
		t.Fatalf("%s: %d", what, errno)
	}
}

// told fails if a call answered another error.
func told(t *testing.T, what string, got, want api.Errno) {
	t.Helper()
	if got != want {
		t.Errorf("%s: %d, not %d", what, got, want)
	}
}

// reads fails if a block has other bytes.
func reads(t *testing.T, d *Device, at int, want string) {
	t.Helper()
	if got, errno := d.Read(at); got != want || errno != api.OK {
		t.Errorf("Read(%d): %q, %d, not %q", at, got, errno, want)
	}
}

// waits fails if other writes wait.
func waits(t *testing.T, d *Device, want ...int) {
	t.Helper()
	if got := d.Waiting(); !slices.Equal(got, want) {
		t.Errorf("Waiting: %v, not %v", got, want)
	}
}

// isOff fails if the power is not as it should be.
func isOff(t *testing.T, d *Device, want bool) {
	t.Helper()
	if d.Off() != want {
		t.Errorf("Off: %v, not %v", !want, want)
	}
}

// turnedOff is a device whose power is off, with writes to blocks 1 and 2 that wait, and block 0 that is sure.
func turnedOff(t *testing.T) *Device {
	t.Helper()
	d := made(t, 3)
	ok(t, "Write", d.Write(0, filled('a')))
	ok(t, "Sync", d.Sync())
	ok(t, "Write", d.Write(1, filled('b')))
	ok(t, "Write", d.Write(2, filled('c')))
	ok(t, "Fuse", d.Fuse(0))
	told(t, "Sync at the fuse", d.Sync(), api.ErrOff)
	isOff(t, d, true)
	return d
}

// De1

func TestNewTakesOneToMaxBlocks(t *testing.T) {
	for _, n := range []int{math.MinInt, -4096, -2, -1, 0, 4097, 4098, 1 << 16, 1 << 32, math.MaxInt} {
		if d, errno := New(n); d != nil || errno != api.ErrArg {
			t.Errorf("New(%d): %v, %d", n, d != nil, errno)
		}
	}
	for _, n := range []int{1, 2, 3, 127, 128, 4095, 4096} {
		d := made(t, n)
		if d.Size() != n {
			t.Errorf("Size: %d, not %d", d.Size(), n)
		}
		isOff(t, d, false)
		waits(t, d)
		for at := range n {
			reads(t, d, at, noughts())
		}
		for range 100 {
			ok(t, "Sync without a fuse", d.Sync())
		}
	}
}

func TestBlocksAtTheEnds(t *testing.T) {
	for _, n := range []int{1, 2, 4096} {
		d := made(t, n)
		for _, at := range []int{n - 1, 0} {
			ok(t, "Write", d.Write(at, rising(at+1)))
			reads(t, d, at, rising(at+1))
		}
		for _, at := range []int{math.MinInt, -n, -1, n, n + 1, 2 * n, 1 << 32, math.MaxInt} {
			if s, errno := d.Read(at); s != "" || errno != api.ErrArg {
				t.Errorf("Read(%d) of %d blocks: %q, %d", at, n, s, errno)
			}
			told(t, "Write beside", d.Write(at, filled('x')), api.ErrArg)
			told(t, "Spoil beside", d.Spoil(at, filled('x')), api.ErrArg)
		}
		waits(t, d, n-1, 0)
		reads(t, d, 0, rising(1))
		reads(t, d, n-1, rising(n))
		for at := 1; at < n-1; at++ {
			reads(t, d, at, noughts())
		}
	}
}

func TestTextsOfABlockAlone(t *testing.T) {
	d := made(t, 2)
	ok(t, "Write", d.Write(1, rising(5)))
	for _, count := range []int{0, 1, 64, 127, 129, 256, 1 << 16} {
		s := strings.Repeat("x", count)
		told(t, "Write of "+strconv.Itoa(count), d.Write(1, s), api.ErrArg)
		told(t, "Spoil of "+strconv.Itoa(count), d.Spoil(1, s), api.ErrArg)
		told(t, "Write beside", d.Write(2, s), api.ErrArg)
	}
	// Bytes are counted, not runes.
	told(t, "Write of 128 runes", d.Write(1, strings.Repeat("ä", 128)), api.ErrArg)
	reads(t, d, 1, rising(5))
	waits(t, d, 1)
	ok(t, "Write of 64 runes", d.Write(1, strings.Repeat("ä", 64)))
	reads(t, d, 1, strings.Repeat("ä", 64))
}

func TestBytesOfAllKindsAreRead(t *testing.T) {
	d := made(t, 1)
	for first := range 256 {
		ok(t, "Write", d.Write(0, rising(first)))
		reads(t, d, 0, rising(first))
		ok(t, "Write", d.Write(0, filled(byte(first))))
		reads(t, d, 0, filled(byte(first)))
	}
}

func TestTheLastWriteIsRead(t *testing.T) {
	d := made(t, 3)
	ok(t, "Write", d.Write(1, filled('a')))
	ok(t, "Write", d.Write(2, filled('b')))
	ok(t, "Write", d.Write(1, filled('c')))
	reads(t, d, 0, noughts())
	reads(t, d, 1, filled('c'))
	reads(t, d, 2, filled('b'))
	waits(t, d, 1, 2, 1)
	ok(t, "Sync", d.Sync())
	waits(t, d)
	reads(t, d, 0, noughts())
	reads(t, d, 1, filled('c'))
	reads(t, d, 2, filled('b'))
	ok(t, "Crash", d.Crash(nil))
	reads(t, d, 1, filled('c'))
	reads(t, d, 2, filled('b'))
}

func TestTheSameBytesWaitToo(t *testing.T) {
	d := made(t, 2)
	ok(t, "Write", d.Write(1, noughts()))
	ok(t, "Write", d.Write(1, noughts()))
	ok(t, "Write", d.Write(0, noughts()))
	waits(t, d, 1, 1, 0)
}

func TestManyWritesWait(t *testing.T) {
	d := made(t, 7)
	var want []int
	for k := range 5000 {
		at := k * k % 7
		ok(t, "Write", d.Write(at, rising(k)))
		want = append(want, at)
	}
	waits(t, d, want...)
	// Write 4991 is to block 0, write 4999 to block 1.
	ok(t, "Crash", d.Crash([]int{4999, 4991, 0}))
	reads(t, d, 0, rising(4991))
	reads(t, d, 1, rising(4999))
	for at := 2; at < 7; at++ {
		reads(t, d, at, noughts())
	}
	waits(t, d)
}

// De2

func TestFuses(t *testing.T) {
	for _, n := range []int{0, 1, 2, 3, 10, 100} {
		d := made(t, 2)
		ok(t, "Fuse", d.Fuse(n))
		for k := range n {
			isOff(t, d, false)
			if k%3 == 1 {
				ok(t, "Sync ahead", d.Sync())
			} else {
				ok(t, "Write ahead", d.Write(1, rising(k)))
			}
		}
		isOff(t, d, false)
		waiting := d.Waiting()
		told(t, "Write at the fuse", d.Write(0, filled('x')), api.ErrOff)
		isOff(t, d, true)
		waits(t, d, waiting...)
		for range 3 {
			told(t, "Write behind", d.Write(0, filled('x')), api.ErrOff)
			told(t, "Sync behind", d.Sync(), api.ErrOff)
		}
		waits(t, d, waiting...)
		ok(t, "Crash", d.Crash([]int{0, 1, 2, 3}))
		isOff(t, d, false)
		reads(t, d, 0, noughts())
		for range n + 5 {
			ok(t, "no fuse any more", d.Write(0, filled('y')))
		}
	}
}

func TestAFuseAtASync(t *testing.T) {
	d := made(t, 1)
	ok(t, "Write", d.Write(0, filled('a')))
	ok(t, "Fuse", d.Fuse(0))
	told(t, "Sync", d.Sync(), api.ErrOff)
	isOff(t, d, true)
	waits(t, d, 0)
	ok(t, "Crash", d.Crash(nil))
	reads(t, d, 0, noughts())
}

func TestNoFuse(t *testing.T) {
	for _, n := range []int{-1, -2, math.MinInt} {
		d := made(t, 1)
		ok(t, "Fuse", d.Fuse(n))
		for k := range 300 {
			ok(t, "Write", d.Write(0, rising(k)))
		}
		ok(t, "Fuse", d.Fuse(1))
		ok(t, "Fuse that takes it away", d.Fuse(n))
		for range 300 {
			ok(t, "Sync", d.Sync())
		}
		isOff(t, d, false)
	}
}

func TestAGreatFuse(t *testing.T) {
	d := made(t, 1)
	ok(t, "Fuse", d.Fuse(math.MaxInt))
	for range 300 {
		ok(t, "Sync", d.Sync())
	}
	isOff(t, d, false)
}

func TestAFuseLaidTwice(t *testing.T) {
	d := made(t, 1)
	for _, c := range [][2]int{{0, 2}, {5, 1}, {1, 1}, {3, 0}, {0, 0}} {
		ok(t, "Fuse", d.Fuse(c[0]))
		ok(t, "Fuse", d.Fuse(c[1]))
		for range c[1] {
			ok(t, "Write", d.Write(0, filled('a')))
		}
		told(t, "Write at the second fuse", d.Write(0, filled('b')), api.ErrOff)
		ok(t, "Crash", d.Crash(nil))
	}
	// What was done ahead is not taken off the second one.
	ok(t, "Fuse", d.Fuse(2))
	ok(t, "Sync", d.Sync())
	ok(t, "Fuse", d.Fuse(2))
	ok(t, "Sync", d.Sync())
	ok(t, "Sync", d.Sync())
	told(t, "Sync", d.Sync(), api.ErrOff)
}

func TestAFuseWhileThePowerIsOff(t *testing.T) {
	for _, n := range []int{math.MinInt, -1, 0, 1, 5} {
		d := turnedOff(t)
		ok(t, "Fuse", d.Fuse(n))
		isOff(t, d, true)
		told(t, "Write", d.Write(0, filled('x')), api.ErrOff)
		told(t, "Sync", d.Sync(), api.ErrOff)
		isOff(t, d, true)
		ok(t, "Fuse", d.Fuse(n))
		ok(t, "Crash", d.Crash(nil))
		for range 10 {
			ok(t, "no fuse behind a crash", d.Sync())
		}
	}
}

func TestACrashTakesTheFuseAway(t *testing.T) {
	for _, n := range []int{0, 1, 2} {
		d := made(t, 1)
		ok(t, "Fuse", d.Fuse(n))
		ok(t, "Crash", d.Crash(nil))
		for range 5 {
			ok(t, "Write", d.Write(0, filled('a')))
		}
	}
}

// Only a doing that would be done burns the fuse.
func TestWhatIsNoDoing(t *testing.T) {
	d := made(t, 2)
	ok(t, "Fuse", d.Fuse(0))
	for range 3 {
		told(t, "Write beside", d.Write(2, filled('a')), api.ErrArg)
		told(t, "Write below", d.Write(-1, filled('a')), api.ErrArg)
		told(t, "short Write", d.Write(0, "a"), api.ErrArg)
		told(t, "Spoil beside", d.Spoil(2, filled('a')), api.ErrArg)
		ok(t, "Spoil", d.Spoil(1, filled('s')))
		reads(t, d, 1, filled('s'))
		if s, errno := d.Read(2); s != "" || errno != api.ErrArg {
			t.Errorf("Read(2): %q, %d", s, errno)
		}
		if d.Size() != 2 {
			t.Errorf("Size: %d", d.Size())
		}
		waits(t, d)
		isOff(t, d, false)
	}
	told(t, "Write", d.Write(0, filled('a')), api.ErrOff)
	isOff(t, d, true)
}

func TestEachCallWhileThePowerIsOff(t *testing.T) {
	d := turnedOff(t)
	for at := range 3 {
		if s, errno := d.Read(at); s != "" || errno != api.ErrOff {
			t.Errorf("Read(%d): %q, %d", at, s, errno)
		}
		told(t, "Write", d.Write(at, filled('x')), api.ErrOff)
	}
	for _, at := range []int{-1, 3} {
		if s, errno := d.Read(at); s != "" || errno != api.ErrArg {
			t.Errorf("Read(%d): %q, %d", at, s, errno)
		}
		told(t, "Write beside", d.Write(at, filled('x')), api.ErrArg)
		told(t, "Spoil beside", d.Spoil(at, filled('x')), api.ErrArg)
	}
	told(t, "short Write", d.Write(0, filled('x')[:127]), api.ErrArg)
	told(t, "long Spoil", d.Spoil(0, filled('x')+"x"), api.ErrArg)
	told(t, "Sync", d.Sync(), api.ErrOff)
	if d.Size() != 3 {
		t.Errorf("Size: %d", d.Size())
	}
	waits(t, d, 1, 2)
	isOff(t, d, true)
	ok(t, "Spoil", d.Spoil(2, filled('s')))
	waits(t, d, 1)
	isOff(t, d, true)
	ok(t, "Crash", d.Crash([]int{0}))
	isOff(t, d, false)
	waits(t, d)
	reads(t, d, 0, filled('a'))
	reads(t, d, 1, filled('b'))
	reads(t, d, 2, filled('s'))
}

func TestCrashKeepsByNumber(t *testing.T) {
	texts := []string{rising(1), rising(2), rising(3), rising(4), rising(5)}
	places := []int{0, 1, 0, 2, 1}
	for _, c := range []struct {
		keep []int
		want [3]int // which text each block has: 0 is none
	}{
		{nil, [3]int{}},
		{[]int{}, [3]int{}},
		{[]int{0}, [3]int{1, 0, 0}},
		{[]int{1}, [3]int{0, 2, 0}},
		{[]int{2}, [3]int{3, 0, 0}},
		{[]int{3}, [3]int{0, 0, 4}},
		{[]int{4}, [3]int{0, 5, 0}},
		{[]int{0, 2}, [3]int{3, 0, 0}},
		{[]int{2, 0}, [3]int{3, 0, 0}},
		{[]int{4, 1}, [3]int{0, 5, 0}},
		{[]int{3, 3, 0, 0, 3}, [3]int{1, 0, 4}},
		{[]int{0, 1, 0}, [3]int{1, 2, 0}},
		{[]int{2, 0, 2, 0}, [3]int{3, 0, 0}},
		{[]int{4, 3, 2, 1, 0}, [3]int{3, 5, 4}},
		{[]int{0, 1, 2, 3, 4}, [3]int{3, 5, 4}},
		{[]int{-1}, [3]int{}},
		{[]int{5}, [3]int{}},
		{[]int{-1, 5, 3, math.MinInt, math.MaxInt, 1 << 32, -5}, [3]int{0, 0, 4}},
	} {
		d := made(t, 3)
		for k, at := range places {
			ok(t, "Write", d.Write(at, texts[k]))
		}
		ok(t, "Crash", d.Crash(c.keep))
		waits(t, d)
		isOff(t, d, false)
		for at, k := range c.want {
			want := noughts()
			if k > 0 {
				want = texts[k-1]
			}
			reads(t, d, at, want)
		}
		// What survived is sure.
		before := blocksOf(d)
		ok(t, "Crash", d.Crash([]int{0, 1, 2, 3, 4}))
		if !slices.Equal(blocksOf(d), before) {
			t.Errorf("Crash(%v), and again: other blocks", c.keep)
		}
	}
}

// Numbers begin anew behind a sync, and behind a crash.
func TestNumbersAreThoseOfTheWritesThatWait(t *testing.T) {
	d := made(t, 2)
	ok(t, "Write", d.Write(0, filled('a')))
	ok(t, "Sync", d.Sync())
	ok(t, "Write", d.Write(0, filled('b')))
	ok(t, "Write", d.Write(1, filled('c')))
	ok(t, "Crash", d.Crash([]int{1}))
	reads(t, d, 0, filled('a'))
	reads(t, d, 1, filled('c'))
	ok(t, "Write", d.Write(1, filled('d')))
	ok(t, "Crash", d.Crash([]int{0}))
	reads(t, d, 1, filled('d'))
}

func TestSpoil(t *testing.T) {
	d := made(t, 3)
	ok(t, "Write", d.Write(0, filled('a')))
	ok(t, "Write", d.Write(1, filled('b')))
	ok(t, "Write", d.Write(0, filled('c')))
	ok(t, "Write", d.Write(2, filled('d')))
	ok(t, "Spoil", d.Spoil(0, rising(9)))
	reads(t, d, 0, rising(9))
	reads(t, d, 1, filled('b'))
	reads(t, d, 2, filled('d'))
	waits(t, d, 1, 2)
	// The writes that still wait are numbered anew.
	ok(t, "Crash", d.Crash([]int{1}))
	reads(t, d, 0, rising(9))
	reads(t, d, 1, noughts())
	reads(t, d, 2, filled('d'))
}

func TestSpoilOfWhatIsSureAlone(t *testing.T) {
	d := made(t, 2)
	ok(t, "Write", d.Write(0, filled('a')))
	ok(t, "Write", d.Write(1, filled('b')))
	ok(t, "Sync", d.Sync())
	ok(t, "Spoil", d.Spoil(1, rising(3)))
	waits(t, d)
	reads(t, d, 0, filled('a'))
	reads(t, d, 1, rising(3))
	ok(t, "Crash", d.Crash(nil))
	reads(t, d, 0, filled('a'))
	reads(t, d, 1, rising(3))
}

func TestAWriteBehindASpoil(t *testing.T) {
	for _, keep := range []bool{false, true} {
		d := made(t, 1)
		ok(t, "Write", d.Write(0, filled('a')))
		ok(t, "Spoil", d.Spoil(0, filled('s')))
		ok(t, "Write", d.Write(0, filled('b')))
		waits(t, d, 0)
		reads(t, d, 0, filled('b'))
		want, numbers := filled('s'), []int(nil)
		if keep {
			want, numbers = filled('b'), []int{0}
		}
		ok(t, "Crash", d.Crash(numbers))
		reads(t, d, 0, want)
	}
}

// De3

// blocksOf are the bytes of all blocks.
func blocksOf(d *Device) []string {
	blocks := make([]string, d.Size())
	for at := range blocks {
		blocks[at], _ = d.Read(at)
	}
	return blocks
}

func TestTheChaptersExample(t *testing.T) {
	d := made(t, 1)
	ok(t, "Write", d.Write(0, filled('a')))
	ok(t, "Sync", d.Sync())
	ok(t, "Write", d.Write(0, filled('b')))
	ok(t, "Crash", d.Crash(nil))
	reads(t, d, 0, filled('a'))
}

// laden is a device of 4 blocks with some that were synced, and count writes that wait; and which writes those are.
func laden(t *testing.T, seed, count int) (*Device, []int, []string) {
	t.Helper()
	d := made(t, 4)
	s := stir(seed)
	for k := range 3 {
		ok(t, "Write", d.Write(s.below(4), rising(100+k)))
	}
	ok(t, "Sync", d.Sync())
	var places []int
	var texts []string
	for range count {
		at, text := s.below(4), rising(s.below(90))
		ok(t, "Write", d.Write(at, text))
		places, texts = append(places, at), append(texts, text)
	}
	return d, places, texts
}

func TestWhatWasSyncedSurvives(t *testing.T) {
	for seed := range 40 {
		const count = 6
		for kept := range 1 << count {
			synced, _, _ := laden(t, seed, 0)
			want := blocksOf(synced)
			d, places, texts := laden(t, seed, count)
			var keep []int
			for k := range count {
				if kept>>k&1 == 1 {
					keep = append(keep, k)
					want[places[k]] = texts[k]
				}
			}
			ok(t, "Crash", d.Crash(keep))
			if !slices.Equal(blocksOf(d), want) {
				t.Fatalf("seed %d, Crash(%v): other blocks", seed, keep)
			}
		}
	}
}

func TestACrashThatKeepsAllIsASync(t *testing.T) {
	for seed := range 40 {
		for count := range 9 {
			synced, _, _ := laden(t, seed, count)
			ok(t, "Sync", synced.Sync())
			crashed, _, _ := laden(t, seed, count)
			ok(t, "Crash", crashed.Crash([]int{8, 7, 6, 5, 4, 3, 2, 1, 0}))
			lost, _, _ := laden(t, seed, count)
			ok(t, "Crash", lost.Crash(nil))
			bare, _, _ := laden(t, seed, 0)
			for _, pair := range [][2]*Device{{synced, crashed}, {lost, bare}} {
				if !slices.Equal(blocksOf(pair[0]), blocksOf(pair[1])) {
					t.Errorf("seed %d, %d writes: other blocks", seed, count)
				}
				waits(t, pair[0])
				waits(t, pair[1])
				// And they go on alike.
				ok(t, "Crash", pair[0].Crash([]int{0}))
				ok(t, "Crash", pair[1].Crash([]int{0}))
				if !slices.Equal(blocksOf(pair[0]), blocksOf(pair[1])) {
					t.Errorf("seed %d, %d writes, and a crash: other blocks", seed, count)
				}
			}
		}
	}
}

// Each device held against a model

// model is a device by the chapter's words: what is sure, and each write behind it, gone over from the first one for each question.
type model struct {
	sure  []string
	at    []int
	text  []string
	power bool
	fused bool
	left  int
}

func modelOf(n int) *model {
	m := &model{sure: make([]string, n), power: true}
	for at := range m.sure {
		m.sure[at] = noughts()
	}
	return m
}

func (m *model) read(at int) (string, api.Errno) {
	if at < 0 || at >= len(m.sure) {
		return "", api.ErrArg
	}
	if !m.power {
		return "", api.ErrOff
	}
	s := m.sure[at]
	for k := range m.at {
		if m.at[k] == at {
			s = m.text[k]
		}
	}
	return s, api.OK
}

func (m *model) done() bool {
	if m.power && m.fused {
		if m.left == 0 {
			m.power, m.fused = false, false
		}
		m.left--
	}
	return m.power
}

func (m *model) write(at int, s string) api.Errno {
	if at < 0 || at >= len(m.sure) || len(s) != 128 {
		return api.ErrArg
	}
	if !m.done() {
		return api.ErrOff
	}
	m.at, m.text = append(m.at, at), append(m.text, s)
	return api.OK
}

func (m *model) settle(survives func(k int) bool) {
	for k, at := range m.at {
		if survives(k) {
			m.sure[at] = m.text[k]
		}
	}
	m.at, m.text = nil, nil
}

func (m *model) sync() api.Errno {
	if !m.done() {
		return api.ErrOff
	}
	m.settle(func(int) bool { return true })
	return api.OK
}

func (m *model) lay(n int) api.Errno {
	m.fused, m.left = n >= 0, n
	return api.OK
}

func (m *model) crash(keep []int) api.Errno {
	m.settle(func(k int) bool { return slices.Contains(keep, k) })
	m.power, m.fused = true, false
	return api.OK
}

func (m *model) spoil(at int, s string) api.Errno {
	if at < 0 || at >= len(m.sure) || len(s) != 128 {
		return api.ErrArg
	}
	m.sure[at] = s
	var places []int
	var texts []string
	for k := range m.at {
		if m.at[k] != at {
			places, texts = append(places, m.at[k]), append(texts, m.text[k])
		}
	}
	m.at, m.text = places, texts
	return api.OK
}

// doing is a call, as it is done to both.
type doing struct {
	name  string
	real  func(d *Device) api.Errno
	meant func(m *model) api.Errno
}

func writing(at int, s string) doing {
	return doing{"Write " + strconv.Itoa(at), func(d *Device) api.Errno { return d.Write(at, s) }, func(m *model) api.Errno { return m.write(at, s) }}
}

func syncing() doing {
	return doing{"Sync", (*Device).Sync, (*model).sync}
}

func fusing(n int) doing {
	return doing{"Fuse " + strconv.Itoa(n), func(d *Device) api.Errno { return d.Fuse(n) }, func(m *model) api.Errno { return m.lay(n) }}
}

func crashing(keep ...int) doing {
	return doing{"Crash", func(d *Device) api.Errno { return d.Crash(keep) }, func(m *model) api.Errno { return m.crash(keep) }}
}

func spoiling(at int, s string) doing {
	return doing{"Spoil " + strconv.Itoa(at), func(d *Device) api.Errno { return d.Spoil(at, s) }, func(m *model) api.Errno { return m.spoil(at, s) }}
}

// alike tells whether a device answers all that can be asked as its model does.
func alike(d *Device, m *model) bool {
	if d.Size() != len(m.sure) || d.Off() == m.power || !slices.Equal(d.Waiting(), m.at) {
		return false
	}
	for at := -1; at <= len(m.sure); at++ {
		got, errno := d.Read(at)
		want, meant := m.read(at)
		if got != want || errno != meant {
			return false
		}
	}
	return true
}

// run does all doings to both, and tells by name the first behind which they are not alike.
func run(t *testing.T, n int, doings []doing) {
	t.Helper()
	d, m := made(t, n), modelOf(n)
	for k, x := range doings {
		got, want := x.real(d), x.meant(m)
		if got != want || !alike(d, m) {
			var names []string
			for _, y := range doings[:k+1] {
				names = append(names, y.name)
			}
			t.Fatalf("%s: %d, the model %d", strings.Join(names, ", "), got, want)
		}
	}
}

// All short scripts of some doings of two blocks.
func TestAllShortScripts(t *testing.T) {
	words := []doing{
		writing(0, rising(1)), writing(0, rising(2)), writing(1, rising(3)), syncing(),
		fusing(-1), fusing(0), fusing(1), crashing(), crashing(0), crashing(1, 2), spoiling(0, rising(4)),
	}
	const length = 5
	count := 1
	for range length {
		count *= len(words)
	}
	script := make([]doing, length)
	for number := range count {
		rest := number
		for k := range script {
			script[k] = words[rest%len(words)]
			rest /= len(words)
		}
		run(t, 2, script)
	}
}

// stirrer gives numbers by a fixed rule.
type stirrer struct{ word uint64 }

func stir(seed int) *stirrer { return &stirrer{uint64(seed)*2 + 1} }

func (s *stirrer) below(n int) int {
	s.word = s.word*6364136223846793005 + 1442695040888963407
	return int(s.word >> 33 % uint64(n))
}

// stirredDoing is any call, mostly with arguments that may be.
func stirredDoing(s *stirrer, n int) doing {
	at, text := s.below(n+2)-1, rising(s.below(256))
	if s.below(10) == 0 {
		text = strings.Repeat("x", 127+2*s.below(2))
	}
	switch s.below(12) {
	case 0, 1:
		return syncing()
	case 2:
		return fusing(s.below(12) - 2)
	case 3, 4:
		keep := make([]int, s.below(10))
		for k := range keep {
			keep[k] = s.below(12) - 2
		}
		return crashing(keep...)
	case 5:
		return spoiling(at, text)
	}
	return writing(at, text)
}

func TestLongScripts(t *testing.T) {
	for seed := range 300 {
		s := stir(seed)
		n := 1 + s.below(6)
		script := make([]doing, 150)
		for k := range script {
			script[k] = stirredDoing(s, n)
		}
		run(t, n, script)
	}
}

// R1 to R4

func TestDevicesThatNewDidNotGive(t *testing.T) {
	failed, _ := New(0)
	for name, d := range map[string]*Device{"nil": nil, "empty": {}, "new": new(Device), "of a New that was refused": failed} {
		for range 2 {
			if d.Size() != 0 || d.Off() || len(d.Waiting()) != 0 {
				t.Errorf("%s: Size %d, Off %v, Waiting %v", name, d.Size(), d.Off(), d.Waiting())
			}
			for _, at := range []int{math.MinInt, -1, 0, 1, math.MaxInt} {
				if s, errno := d.Read(at); s != "" || errno != api.ErrArg {
					t.Errorf("%s: Read(%d): %q, %d", name, at, s, errno)
				}
				told(t, name+": Write", d.Write(at, filled('a')), api.ErrArg)
				told(t, name+": short Write", d.Write(at, ""), api.ErrArg)
				told(t, name+": Spoil", d.Spoil(at, filled('a')), api.ErrArg)
				told(t, name+": Fuse", d.Fuse(at), api.ErrArg)
			}
			told(t, name+": Sync", d.Sync(), api.ErrArg)
			told(t, name+": Crash", d.Crash(nil), api.ErrArg)
			told(t, name+": Crash", d.Crash([]int{0, -1}), api.ErrArg)
		}
	}
}

func TestCallsThatAreRefusedChangeNothing(t *testing.T) {
	d := made(t, 2)
	ok(t, "Write", d.Write(0, rising(1)))
	ok(t, "Sync", d.Sync())
	ok(t, "Write", d.Write(0, rising(2)))
	ok(t, "Write", d.Write(1, rising(3)))
	ok(t, "Fuse", d.Fuse(1))
	for _, at := range []int{-1, 0, 1, 2} {
		told(t, "short Write", d.Write(at, ""), api.ErrArg)
		told(t, "short Spoil", d.Spoil(at, rising(9)[1:]), api.ErrArg)
	}
	reads(t, d, 0, rising(2))
	reads(t, d, 1, rising(3))
	waits(t, d, 0, 1)
	ok(t, "Write", d.Write(1, rising(4)))
	told(t, "Write at the fuse", d.Write(1, rising(5)), api.ErrOff)
	waits(t, d, 0, 1, 1)
	ok(t, "Crash", d.Crash([]int{3, 1}))
	reads(t, d, 0, rising(1))
	reads(t, d, 1, rising(3))
}

func TestListsAreNeitherChangedNorKept(t *testing.T) {
	d := made(t, 3)
	for at := range 3 {
		ok(t, "Write", d.Write(at, rising(at+1)))
	}
	first, second := d.Waiting(), d.Waiting()
	first[0] = 9
	if second[0] != 0 {
		t.Error("two answers of Waiting share memory")
	}
	_ = append(first[:1], 7, 7, 7)
	waits(t, d, 0, 1, 2)
	ok(t, "Write", d.Write(0, rising(4)))
	if !slices.Equal(second, []int{0, 1, 2}) {
		t.Errorf("what Waiting answered became %v", second)
	}
	room := []int{2, 2, 0, -1, 99, 1, 1}
	before := slices.Clone(room)
	ok(t, "Crash", d.Crash(room[:5]))
	if !slices.Equal(room, before) {
		t.Errorf("Crash changed its list: %v", room)
	}
	reads(t, d, 0, rising(1))
	reads(t, d, 1, noughts())
	reads(t, d, 2, rising(3))
}

func TestBytesThatWereReadStay(t *testing.T) {
	d := made(t, 1)
	ok(t, "Write", d.Write(0, rising(1)))
	first, _ := d.Read(0)
	ok(t, "Write", d.Write(0, rising(2)))
	second, _ := d.Read(0)
	ok(t, "Spoil", d.Spoil(0, rising(3)))
	if first != rising(1) || second != rising(2) {
		t.Error("bytes that were read became others")
	}
}

func TestBytesThatAreHandedInAreCopied(t *testing.T) {
	bytes := []byte(rising(1))
	d := made(t, 2)
	ok(t, "Write", d.Write(0, string(bytes)))
	ok(t, "Spoil", d.Spoil(1, string(bytes)))
	clear(bytes)
	reads(t, d, 0, rising(1))
	reads(t, d, 1, rising(1))
}

func TestDevicesStandByThemselves(t *testing.T) {
	a, b := made(t, 2), made(t, 2)
	ok(t, "Write", a.Write(0, rising(1)))
	ok(t, "Fuse", a.Fuse(0))
	told(t, "Sync", a.Sync(), api.ErrOff)
	isOff(t, b, false)
	waits(t, b)
	reads(t, b, 0, noughts())
	ok(t, "Write", b.Write(0, rising(2)))
	ok(t, "Sync", b.Sync())
	ok(t, "Crash", a.Crash([]int{0}))
	reads(t, a, 0, rising(1))
	reads(t, b, 0, rising(2))
}
