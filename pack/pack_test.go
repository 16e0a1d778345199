package pack

import (
	"math"
	"math/big"
	"peristyle/api"
	"slices"
	"strings"
	"testing"
)

const most = 1 << 16 // words of a list

var (
	someWords   = []int{0, 1, -1, math.MinInt, math.MaxInt, 2, 3, 5, 7, 127, 128, 255, 256, 1<<31 - 1, 1 << 31, 1 << 32, 1 << 62, -2, -128, -1 << 32, math.MinInt + 1, math.MaxInt - 1, 0x0123456789abcdef, -0x123456789abcdef, 0x5555555555555555, -0x5555555555555556}
	wrongWidths = []int{-1, 65, -2, -8, -63, -64, -65, 66, 127, 128, 129, 192, 256, 1 << 31, 1 << 32, 1<<32 + 1, -1 << 32, 1 << 58, 1<<58 + 1, 1 << 60, 1 << 61, math.MinInt, math.MinInt + 1, math.MaxInt - 1, math.MaxInt}
	wrongCounts = []int{-1, -2, -8, -most, -most - 1, most + 1, most + 2, 2 * most, 1 << 31, 1 << 32, 1<<32 + 1, -1 << 32, 1 << 58, 1<<58 + 1, 1 << 60, 1 << 61, 1<<61 + 1, 1 << 62, math.MinInt, math.MinInt + 1, math.MaxInt - 1, math.MaxInt}
)

// stirrer gives numbers by a fixed rule.
type stirrer struct{ word uint64 }

func stir(seed int) *stirrer { return &stirrer{uint64(seed)*2 + 1} }

func (s *stirrer) below(n int) int {
	s.word = s.word*6364136223846793005 + 1442695040888963407
	return int(s.word >> 33 % uint64(n))
}

// bytes are any ones, so many.
func (s *stirrer) bytes(count int) string {
	out := make([]byte, count)
	for k := range out {
		out[k] = byte(s.below(256))
	}
	return string(out)
}

// lowest is a word of its lowest bits alone, so many.
func lowest(word, width int) int {
	if width == 64 {
		return word
	}
	return word & (1<<width - 1)
}

// words are some of at most so many bits, so many; of each third one all bits are set.
func (s *stirrer) words(count, width int) []int {
	out := make([]int, count)
	for k := range out {
		out[k] = -1
		if k%3 > 0 {
			out[k] = s.below(1<<31)<<33 ^ s.below(1<<31)<<15 ^ s.below(1<<31)
		}
		out[k] = lowest(out[k], width)
	}
	return out
}

// packed are words as bytes by the chapter's words, bit by bit.
func packed(l []int, width int) string {
	s := make([]byte, (len(l)*width+7)/8)
	for k, word := range l {
		for bit := range width {
			if uint64(word)>>bit&1 == 1 {
				s[(k*width+bit)/8] |= 1 << ((k*width + bit) % 8)
			}
		}
	}
	return string(s)
}

// whole are bytes as one great number, the lowest byte first.
func whole(s string) *big.Int {
	high := []byte(s)
	slices.Reverse(high)
	return new(big.Int).SetBytes(high)
}

// pieces are the words of so many bits, so many, of a great number.
func pieces(number *big.Int, n, width int) []int {
	out := make([]int, n)
	limit := new(big.Int).Lsh(big.NewInt(1), uint(width))
	for k := range out {
		piece := new(big.Int).Rsh(number, uint(k*width))
		out[k] = int(piece.Mod(piece, limit).Uint64())
	}
	return out
}

// short is a list as it is told: its beginning alone.
func short[T any](l []T) []T { return l[:min(len(l), 20)] }

// puts fails if Put answers other bytes.
func puts(t *testing.T, l []int, width int, want string) {
	t.Helper()
	if got, errno := Put(l, width); got != want || errno != api.OK {
		t.Errorf("Put of %d words, %x.., %d: %x.., %d, not %x..", len(l), short(l), width, short([]byte(got)), errno, short([]byte(want)))
	}
}

// putsNone fails if Put does not answer ErrArg, and nothing beside.
func putsNone(t *testing.T, l []int, width int) {
	t.Helper()
	if got, errno := Put(l, width); got != "" || errno != api.ErrArg {
		t.Errorf("Put of %d words, %x.., %d: %x.., %d, not ErrArg alone", len(l), short(l), width, short([]byte(got)), errno)
	}
}

// takes fails if Take answers other words.
func takes(t *testing.T, s string, width int, want []int) {
	t.Helper()
	if got, errno := Take(s, len(want), width); !slices.Equal(got, want) || errno != api.OK {
		t.Errorf("Take of %d bytes, %x.., %d, %d: %x.., %d, not %x..", len(s), short([]byte(s)), len(want), width, short(got), errno, short(want))
	}
}

// takesNone fails if Take does not answer that error, and nothing beside.
func takesNone(t *testing.T, s string, n, width int, want api.Errno) {
	t.Helper()
	if got, errno := Take(s, n, width); len(got) != 0 || errno != want {
		t.Errorf("Take of %d bytes, %x.., %d, %d: %x.., %d, not %d alone", len(s), short([]byte(s)), n, width, short(got), errno, want)
	}
}

// finds fails if At answers another word.
func finds(t *testing.T, s string, k, width, want int) {
	t.Helper()
	if got, errno := At(s, k, width); got != want || errno != api.OK {
		t.Errorf("At of %d bytes, %x.., %d, %d: %x, %d, not %x", len(s), short([]byte(s)), k, width, got, errno, want)
	}
}

// findsNone fails if At does not answer that error, and nothing beside.
func findsNone(t *testing.T, s string, k, width int, want api.Errno) {
	t.Helper()
	if got, errno := At(s, k, width); got != 0 || errno != want {
		t.Errorf("At of %d bytes, %x.., %d, %d: %x, %d, not %d alone", len(s), short([]byte(s)), k, width, got, errno, want)
	}
}

// Pa1

func TestWidth(t *testing.T) {
	for _, c := range []struct {
		l    []int
		want int
	}{
		{nil, 0}, {[]int{}, 0}, {[]int{0}, 0}, {[]int{0, 0, 0}, 0}, {[]int{1}, 1}, {[]int{5, 2, 7}, 3}, {[]int{8, 2, 7}, 4}, {[]int{2, 8, 7}, 4}, {[]int{2, 7, 8}, 4},
		{[]int{0, 1}, 1}, {[]int{1, 0}, 1}, {[]int{-1}, 64}, {[]int{-1, 0}, 64}, {[]int{0, -1}, 64}, {[]int{-1, math.MaxInt}, 64}, {[]int{math.MinInt}, 64}, {[]int{math.MaxInt}, 63}, {[]int{1, math.MaxInt, 1}, 63},
		{append(make([]int, most), 9), 4}, // more words than may be put
	} {
		if got := Width(c.l); got != c.want {
			t.Errorf("Width(%x..): %d, not %d", short(c.l), got, c.want)
		}
	}
	for width := 1; width <= 64; width++ {
		for _, word := range []int{int(uint64(1) << (width - 1)), lowest(-1, width)} {
			for _, l := range [][]int{{word}, {word, 0, 1}, {1, word, 0}, {0, 1, word}} {
				if got := Width(l); got != width {
					t.Errorf("Width(%x): %d, not %d", l, got, width)
				}
			}
		}
	}
}

func TestPutAndTake(t *testing.T) {
	for _, c := range []struct {
		l     []int
		width int
		bytes string
	}{
		{[]int{5, 2, 7}, 3, "\xd5\x01"}, // the chapter's example
		{nil, 0, ""}, {nil, 1, ""}, {nil, 8, ""}, {nil, 64, ""}, {[]int{}, 3, ""},
		{[]int{0}, 0, ""}, {[]int{0, 0, 0}, 0, ""},
		{[]int{0}, 1, "\x00"}, {[]int{1}, 1, "\x01"}, {[]int{1}, 2, "\x01"}, {[]int{1}, 8, "\x01"}, {[]int{1}, 9, "\x01\x00"},
		{[]int{1, 0, 0, 0, 0, 0, 0, 1}, 1, "\x81"}, {[]int{1, 0, 0, 0, 0, 0, 0, 1, 1}, 1, "\x81\x01"}, {[]int{0, 1, 1}, 1, "\x06"},
		{[]int{1, 2, 3, 0}, 2, "\x39"}, {[]int{1, 2, 3, 0, 3}, 2, "\x39\x03"},
		{[]int{1, 2, 3}, 4, "\x21\x03"}, {[]int{0xa, 0xb, 0xc, 0xd}, 4, "\xba\xdc"},
		{[]int{1, 127}, 7, "\x81\x3f"}, {[]int{64, 1}, 7, "\xc0\x00"},
		{[]int{0x61, 0x62, 0xff}, 8, "ab\xff"},
		{[]int{0x1ff, 0, 0x1ff}, 9, "\xff\x01\xfc\x07"}, {[]int{0x101}, 9, "\x01\x01"},
		{[]int{0x123, 0x456}, 12, "\x23\x61\x45"}, {[]int{0x0201, 0x0403}, 16, "\x01\x02\x03\x04"},
		{[]int{1, 1 << 31}, 32, "\x01\x00\x00\x00\x00\x00\x00\x80"}, {[]int{1 << 32, 1}, 33, "\x00\x00\x00\x00\x03\x00\x00\x00\x00"},
		{[]int{math.MaxInt}, 63, "\xff\xff\xff\xff\xff\xff\xff\x7f"}, {[]int{0, math.MaxInt}, 63, "\x00\x00\x00\x00\x00\x00\x00\x80\xff\xff\xff\xff\xff\xff\xff\x3f"},
		{[]int{math.MaxInt, 1}, 63, "\xff\xff\xff\xff\xff\xff\xff\xff\x00\x00\x00\x00\x00\x00\x00\x00"},
		{[]int{0}, 64, "\x00\x00\x00\x00\x00\x00\x00\x00"}, {[]int{1}, 64, "\x01\x00\x00\x00\x00\x00\x00\x00"}, {[]int{-1}, 64, "\xff\xff\xff\xff\xff\xff\xff\xff"},
		{[]int{math.MinInt}, 64, "\x00\x00\x00\x00\x00\x00\x00\x80"}, {[]int{math.MaxInt}, 64, "\xff\xff\xff\xff\xff\xff\xff\x7f"},
		{[]int{-2, 0x0807060504030201}, 64, "\xfe\xff\xff\xff\xff\xff\xff\xff\x01\x02\x03\x04\x05\x06\x07\x08"},
		// a word in nine bytes, of which the first and the last are not all its own
		{[]int{0, 1<<62 - 1, 0}, 62, "\x00\x00\x00\x00\x00\x00\x00\xc0\xff\xff\xff\xff\xff\xff\xff\x0f\x00\x00\x00\x00\x00\x00\x00\x00"},
		{[]int{0, 1<<61 - 1, 0}, 61, strings.Repeat("\x00", 7) + "\xe0\xff\xff\xff\xff\xff\xff\xff\x03" + strings.Repeat("\x00", 7)},
		{[]int{0, 0, math.MaxInt, 0}, 63, strings.Repeat("\x00", 15) + "\xc0\xff\xff\xff\xff\xff\xff\xff\x1f" + strings.Repeat("\x00", 8)},
	} {
		puts(t, c.l, c.width, c.bytes)
		takes(t, c.bytes, c.width, c.l)
		for k, word := range c.l {
			if c.width > 0 {
				finds(t, c.bytes, k, c.width, word)
			}
		}
	}
}

func TestOfEachWidthAndCount(t *testing.T) {
	s := stir(1)
	for width := range 65 {
		for count := range 80 {
			l := s.words(count, width)
			want := packed(l, width)
			puts(t, l, width, want)
			takes(t, want, width, l)
			if got := Bytes(count, width); got != len(want) {
				t.Errorf("Bytes(%d, %d): %d, not %d", count, width, got, len(want))
			}
		}
	}
}

// Each bit of each word of few lies in one byte, by itself.
func TestPutOfEachBit(t *testing.T) {
	for width := 1; width <= 64; width++ {
		for place := range 9 {
			for bit := range width {
				l := make([]int, 9)
				l[place] = int(uint64(1) << bit)
				want := make([]byte, (9*width+7)/8)
				want[(place*width+bit)/8] = 1 << ((place*width + bit) % 8)
				puts(t, l, width, string(want))
				takes(t, string(want), width, l)
				finds(t, string(want), place, width, l[place])
			}
		}
	}
}

// A word that needs just so many bits as there are may stand in any place, one that needs another bit in none.
func TestPutOfWordsThatNeedMore(t *testing.T) {
	for width := range 65 {
		for _, place := range []int{0, 1, 7, 15, 16} {
			l := make([]int, 17)
			for _, fits := range []int{lowest(-1, width), int(uint64(1) << width >> 1)} {
				l[place] = fits
				puts(t, l, width, packed(l, width))
				puts(t, l[place:place+1], width, packed(l[place:place+1], width))
			}
			if width == 64 {
				continue
			}
			for _, wide := range []int{int(uint64(1) << width), lowest(-1, width+1), -1, math.MinInt} {
				l[place] = wide
				putsNone(t, l, width)
				putsNone(t, l[place:place+1], width)
			}
		}
	}
}

func TestPutOfSomeWords(t *testing.T) {
	for _, word := range someWords {
		needs := 0
		for bit := range 64 {
			if uint64(word)>>bit&1 == 1 {
				needs = bit + 1
			}
		}
		for width := range 65 {
			if width < needs {
				putsNone(t, []int{word}, width)
				putsNone(t, []int{0, word, 0}, width)
			} else {
				puts(t, []int{word, 0, word}, width, packed([]int{word, 0, word}, width))
			}
		}
	}
}

func TestPutOfWrongWidths(t *testing.T) {
	for _, width := range wrongWidths {
		for _, l := range [][]int{nil, {0}, {1}, {-1}, {5, 2, 7}, make([]int, 64), make([]int, most), make([]int, most+1)} {
			putsNone(t, l, width)
		}
	}
}

func TestOfMostWords(t *testing.T) {
	s := stir(2)
	for _, width := range []int{0, 1, 2, 3, 7, 8, 9, 31, 33, 63, 64} {
		l := s.words(most+1, width)
		puts(t, l[:most], width, packed(l[:most], width))
		puts(t, l[1:most], width, packed(l[1:most], width))
		putsNone(t, l, width)
		putsNone(t, make([]int, most+1), width)
		putsNone(t, make([]int, 2*most), width)
		bytes := packed(l[:most], width)
		takes(t, bytes, width, l[:most])
		takesNone(t, bytes, most+1, width, api.ErrArg)
		takesNone(t, packed(l, width), most+1, width, api.ErrArg)
		if got := Bytes(most, width); got != most/8*width {
			t.Errorf("Bytes(%d, %d): %d", most, width, got)
		}
	}
}

func TestBytes(t *testing.T) {
	for _, c := range []struct{ n, width, want int }{
		{3, 3, 2}, {9, 7, 8}, {1, 1, 1}, {8, 1, 1}, {9, 1, 2}, {1, 8, 1}, {1, 9, 2}, {2, 4, 1}, {3, 4, 2}, {1, 63, 8}, {1, 64, 8}, {2, 63, 16}, {8, 63, 63}, {9, 63, 71}, {2, 64, 16},
		{most, 1, most / 8}, {most - 1, 1, most / 8}, {most - 8, 1, most/8 - 1}, {most, 64, most * 8}, {most, 63, most / 8 * 63},
		{0, 0, 0}, {0, 1, 0}, {0, 64, 0}, {1, 0, 0}, {9, 0, 0}, {most, 0, 0}, {most + 1, 0, 0},
		{-1, -1, 0}, {-8, -8, 0}, {most + 1, 65, 0}, {math.MinInt, math.MinInt, 0}, {math.MaxInt, math.MaxInt, 0}, {math.MinInt, -1, 0}, {-1, math.MinInt, 0}, {1 << 32, 1 << 32, 0},
	} {
		if got := Bytes(c.n, c.width); got != c.want {
			t.Errorf("Bytes(%d, %d): %d, not %d", c.n, c.width, got, c.want)
		}
	}
	for _, n := range wrongCounts {
		for width := range 65 {
			if got := Bytes(n, width); got != 0 {
				t.Errorf("Bytes(%d, %d): %d, not 0", n, width, got)
			}
		}
	}
	for _, width := range wrongWidths {
		for _, n := range []int{0, 1, 2, 8, 64, most - 1, most} {
			if got := Bytes(n, width); got != 0 {
				t.Errorf("Bytes(%d, %d): %d, not 0", n, width, got)
			}
		}
	}
}

// Pa2

// ErrArg comes ahead of ErrForm: the bytes here are of no words besides.
func TestTakeOfWrongArguments(t *testing.T) {
	for _, s := range []string{"", "\x00", "\x01", "\xd5\x01", strings.Repeat("\xff", 8), strings.Repeat("\x00", most/8)} {
		for _, width := range wrongWidths {
			for _, n := range append([]int{0, 1, 2, 3, 8, most}, wrongCounts...) {
				takesNone(t, s, n, width, api.ErrArg)
			}
		}
		for _, n := range wrongCounts {
			for width := range 65 {
				takesNone(t, s, n, width, api.ErrArg)
			}
		}
	}
}

func TestTakeOfNoBytes(t *testing.T) {
	for width := range 65 {
		takes(t, "", width, nil)
		takesNone(t, "\x00", 0, width, api.ErrForm)
		takesNone(t, "\xff", 0, width, api.ErrForm)
		if width > 0 {
			takesNone(t, "", 1, width, api.ErrForm)
			takesNone(t, "", most, width, api.ErrForm)
		}
	}
	for _, n := range []int{0, 1, 2, 8, 9, 1000, most} {
		takes(t, "", 0, make([]int, n))
		takesNone(t, "\x00", n, 0, api.ErrForm)
		takesNone(t, strings.Repeat("\x00", 8), n, 0, api.ErrForm)
	}
}

func TestTakeOfBytesThatAreCutOff(t *testing.T) {
	s := stir(3)
	for width := 1; width <= 64; width++ {
		for _, count := range []int{0, 1, 2, 3, 8, 9} {
			bytes := packed(s.words(count, width), width)
			for k := range len(bytes) {
				takesNone(t, bytes[:k], count, width, api.ErrForm)
				takesNone(t, bytes[k+1:], count, width, api.ErrForm)
			}
			for behind := 1; behind <= 17; behind++ {
				takesNone(t, bytes+strings.Repeat("\x00", behind), count, width, api.ErrForm)
				takesNone(t, bytes+strings.Repeat("\xff", behind), count, width, api.ErrForm)
			}
		}
	}
}

// A bit that fills the last byte may not be set, each of the word's own may.
func TestTakeOfFillingBitsThatAreSet(t *testing.T) {
	for width := 1; width <= 64; width++ {
		for count := 1; count <= 9; count++ {
			for _, own := range []int{0, lowest(-1, width)} {
				bytes := packed(slices.Repeat([]int{own}, count), width)
				last := len(bytes) - 1
				for bit := range 8 {
					changed := bytes[:last] + string([]byte{bytes[last] ^ 1<<bit})
					if last*8+bit < count*width {
						takes(t, changed, width, pieces(whole(changed), count, width))
					} else {
						takesNone(t, changed, count, width, api.ErrForm)
					}
				}
			}
		}
	}
	takesNone(t, "\xd5\x03", 3, 3, api.ErrForm)
	takesNone(t, "\xd5\x81", 3, 3, api.ErrForm)
	takes(t, "\xd5\x03", 3, []int{5, 2, 7, 1})
	takesNone(t, "\xd5\x11", 4, 3, api.ErrForm)
	takes(t, "\xd5\x11", 3, []int{5, 2, 7, 0, 1})
}

// Any short bytes, with each count and each width: they are words if a great number of so many bits has that many bytes, and is theirs.
func TestTakeOfAnyBytes(t *testing.T) {
	const letters = "\x00\x01\x02\x15\x40\x7f\x80\xa5\xff"
	all := []string{""}
	for first := 0; first < len(all) && len(all[first]) < 3; first++ {
		for k := range len(letters) {
			all = append(all, all[first]+letters[k:k+1])
		}
	}
	s := stir(4)
	for count := 4; count <= 40; count++ {
		all = append(all, s.bytes(count), s.bytes(count-1)+"\x01", s.bytes(count-1)+"\x00")
	}
	for _, bytes := range all {
		number := whole(bytes)
		for width := range 65 {
			for n := range 34 {
				if len(bytes) == (n*width+7)/8 && number.BitLen() <= n*width {
					takes(t, bytes, width, pieces(number, n, width))
				} else {
					takesNone(t, bytes, n, width, api.ErrForm)
				}
			}
		}
	}
}

// At asks for the word's own bits alone: others may be there or not, set or not.
func TestAtOfAnyBytes(t *testing.T) {
	s := stir(5)
	for count := range 40 {
		for _, bytes := range []string{s.bytes(count), s.bytes(count), strings.Repeat("\xff", count), strings.Repeat("\x00", count)} {
			number := whole(bytes)
			for width := 1; width <= 64; width++ {
				for k, word := range pieces(number, count*8/width, width) {
					finds(t, bytes, k, width, word)
				}
				for behind := range 80 {
					findsNone(t, bytes, count*8/width+behind, width, api.ErrNone)
				}
			}
		}
	}
}

func TestAtOfPlaces(t *testing.T) {
	for _, c := range []struct {
		s              string
		k, width, want int
	}{
		{"\xd5\x01", 0, 3, 5}, {"\xd5\x01", 1, 3, 2}, {"\xd5\x01", 2, 3, 7}, {"\xd5\x01", 3, 3, 0}, {"\xd5\x01", 4, 3, 0},
		{"\x80", 7, 1, 1}, {"\x7f", 7, 1, 0}, {"\x00\x80", 15, 1, 1}, // the last byte's last bit
		{"\xc0", 3, 2, 3}, {"\xf0", 1, 4, 15}, {"\xff", 0, 8, 255}, {"\x00\x00\xff", 2, 8, 255}, {"\x00\x00\xe0", 7, 3, 7},
		{strings.Repeat("\xff", 8), 0, 64, -1}, {strings.Repeat("\x00", 8) + "\x00\x00\x00\x00\x00\x00\x00\x80", 1, 64, math.MinInt}, {strings.Repeat("\xff", 63), 7, 63, math.MaxInt},
		{strings.Repeat("\xff", 8), 0, 63, math.MaxInt}, {strings.Repeat("\xff", 9), 0, 64, -1},
		{"\x80\x01", 1, 7, 3}, {"\x00\xff\x00", 1, 5, 24}, {"\x00\xff\x00", 3, 5, 1}, // in two bytes
		{strings.Repeat("\x00", 7) + "\x80" + strings.Repeat("\x00", 7) + "\x20", 1, 63, 1<<62 | 1}, // in nine
		{strings.Repeat("\x00", 15) + "\x40" + strings.Repeat("\x00", 7) + "\x10", 2, 63, 1<<62 | 1},
	} {
		finds(t, c.s, c.k, c.width, c.want)
	}
	for _, c := range []struct {
		s        string
		k, width int
	}{
		{"", 0, 1}, {"", 0, 64}, {"", 1, 1}, {"", -1, 1},
		{"\xd5\x01", 5, 3}, {"\xff", 2, 3}, {"\xff", 1, 5}, {"\xff", 0, 9}, {"\xff\xff", 0, 17}, {strings.Repeat("\xff", 7), 0, 57}, {strings.Repeat("\xff", 7), 0, 64}, {strings.Repeat("\xff", 15), 1, 63}, // not all bits are there
		{"\xff", 8, 1}, {"\xff", 9, 1}, {"\xff", 4, 2}, {"\xff", 1, 8}, {strings.Repeat("\xff", 8), 1, 64}, {"\xff", 100, 64}, // none of them
		{"\xff", -1, 1}, {"\xff", -1, 8}, {"\xff\xff", -8, 1}, {strings.Repeat("\xff", 16), -1, 64},
	} {
		findsNone(t, c.s, c.k, c.width, api.ErrNone)
	}
}

// A place may be so great that its first bit has no number that is an int; turned round, it would be one that is there.
func TestAtOfGreatPlaces(t *testing.T) {
	s := strings.Repeat("\xff", 64)
	for width := 1; width <= 64; width++ {
		for _, k := range wrongCounts {
			findsNone(t, s, k, width, api.ErrNone)
		}
		around := new(big.Int).Lsh(big.NewInt(1), 64)
		for _, turns := range []int64{1, 2, 3, int64(width / 2), int64(width) - 1} {
			k := new(big.Int).Mul(around, big.NewInt(turns))
			k.Div(k, big.NewInt(int64(width)))
			for near := range 3 {
				place := new(big.Int).Add(k, big.NewInt(int64(near)))
				if place.IsInt64() && place.Cmp(big.NewInt(512)) > 0 {
					findsNone(t, s, int(place.Int64()), width, api.ErrNone)
				}
			}
		}
	}
}

// At sets no bound to the place: there are words behind 2^16 if their bits are there.
func TestAtOfManyWords(t *testing.T) {
	for _, width := range []int{1, 3, 8, 13, 64} {
		s := stir(6).bytes(most / 8 * width)
		s += "\xa5\x5a\xc3\x3c\x0f\xf0\x99\x66"
		behind := pieces(whole(s[most/8*width:]), 64/width, width)
		finds(t, s, most-1, width, pieces(new(big.Int).Rsh(whole(s), uint((most-1)*width)), 1, width)[0])
		for k, word := range behind {
			finds(t, s, most+k, width, word)
		}
		findsNone(t, s, most+len(behind), width, api.ErrNone)
		findsNone(t, s[:most/8*width], most, width, api.ErrNone)
		findsNone(t, s[:most/8*width-1], most-1, width, api.ErrNone)
	}
}

// ErrArg comes ahead of ErrNone; a word of 0 bits is At no place.
func TestAtOfWrongWidths(t *testing.T) {
	for _, s := range []string{"", "\x00", "\xff", "\xd5\x01", strings.Repeat("\xff", 64)} {
		for _, width := range append([]int{0}, wrongWidths...) {
			for _, k := range append([]int{0, 1, 2, 8, most}, wrongCounts...) {
				findsNone(t, s, k, width, api.ErrArg)
			}
		}
	}
}

// Pa3

func TestWhatIsPutIsTaken(t *testing.T) {
	s := stir(7)
	for k := range 5000 {
		width := k % 65
		l := s.words(s.below(70), width)
		put, errno := Put(l, width)
		if errno != api.OK || len(put) != Bytes(len(l), width) || Width(l) > width {
			t.Fatalf("Put(%x, %d): %x, %d", l, width, put, errno)
		}
		takes(t, put, width, l)
		for place, word := range l {
			if width > 0 {
				finds(t, put, place, width, word)
			}
		}
		// so it is of the fewest bits that do
		least, errno := Put(l, Width(l))
		if errno != api.OK {
			t.Fatalf("Put(%x, %d): %d", l, Width(l), errno)
		}
		takes(t, least, Width(l), l)
	}
}

func TestWhatIsTakenIsPut(t *testing.T) {
	s := stir(8)
	taken := 0
	for range 3000 {
		bytes := s.bytes(s.below(33))
		for width := range 65 {
			n := s.below(20)
			if width > 0 && s.below(4) > 0 {
				n = len(bytes) * 8 / width
			}
			l, errno := Take(bytes, n, width)
			if errno != api.OK {
				continue
			}
			taken++
			puts(t, l, width, bytes)
			for k, word := range l {
				if width > 0 {
					finds(t, bytes, k, width, word)
				}
			}
		}
	}
	if taken < 10000 {
		t.Errorf("%d alone were taken", taken)
	}
}

func TestMostWordsArePutAndTaken(t *testing.T) {
	s := stir(9)
	for _, width := range []int{1, 5, 17, 64} {
		l := s.words(most, width)
		put, _ := Put(l, width)
		takes(t, put, width, l)
		for k, word := range l {
			finds(t, put, k, width, word)
		}
	}
}

// R1 to R4

// What is handed in stays as it is, what lies behind its end is not read, and what is answered is new memory.
func TestRulesOfLists(t *testing.T) {
	l := []int{5, 2, 7, -1, 9}
	puts(t, l[:3], 3, "\xd5\x01")
	puts(t, l[:0], 3, "")
	putsNone(t, l[:4], 3)
	if Width(l[:3]) != 3 || Width(l[:0]) != 0 {
		t.Errorf("Width reads behind the end: %d, %d", Width(l[:3]), Width(l[:0]))
	}
	if !slices.Equal(l, []int{5, 2, 7, -1, 9}) {
		t.Errorf("what was handed in became %v", l)
	}
	first, _ := Take("\xd5\x01", 3, 3)
	second, _ := Take("\xd5\x01", 3, 3)
	clear(first)
	_ = append(first[:1], 8, 9)
	if !slices.Equal(second, l[:3]) {
		t.Errorf("two answers share memory: %v", second)
	}
	noughts, _ := Take("", 4, 0)
	noughts[0] = 1
	takes(t, "", 0, make([]int, 4))
	takes(t, "\xd5\x01", 3, l[:3])
}

// Bytes of a text that lies within another one are not read beyond their end.
func TestBytesAreNotReadBeyondTheirEnd(t *testing.T) {
	s := "\xff\xd5\x01\xff\xff"
	takes(t, s[1:3], 3, []int{5, 2, 7})
	takesNone(t, s[1:2], 3, 3, api.ErrForm)
	finds(t, s[1:3], 4, 3, 0)
	findsNone(t, s[1:3], 5, 3, api.ErrNone)
	findsNone(t, s[1:2], 2, 3, api.ErrNone)
	findsNone(t, s[:4], 0, 33, api.ErrNone)
}

// No call panics, whatever it is given, and the same is answered again; beside an error there is nothing.
func TestAnyArguments(t *testing.T) {
	s := stir(10)
	numbers := slices.Concat(wrongWidths, wrongCounts, []int{0, 1, 2, 3, 4, 5, 7, 8, 9, 16, 31, 32, 33, 62, 63, 64, most - 1, most})
	pick := func() int { return numbers[s.below(len(numbers))] }
	for range 100000 {
		bytes, n, width := s.bytes(s.below(20)), pick(), pick()
		l := slices.Repeat([]int{someWords[s.below(len(someWords))], 0, 1}, s.below(4))
		if s.below(2) == 0 {
			n, width = s.below(20), s.below(65)
		}
		put, noPut := Put(l, width)
		taken, noTaken := Take(bytes, n, width)
		word, noWord := At(bytes, n, width)
		count := Bytes(n, width)
		Put(taken, 64)
		if again, errno := Put(l, width); again != put || errno != noPut {
			t.Fatalf("Put(%x, %d): %x, %d, then %x, %d", l, width, put, noPut, again, errno)
		}
		if again, errno := Take(bytes, n, width); !slices.Equal(again, taken) || errno != noTaken {
			t.Fatalf("Take(%x, %d, %d): %x, %d, then %x, %d", bytes, n, width, taken, noTaken, again, errno)
		}
		if again, errno := At(bytes, n, width); again != word || errno != noWord {
			t.Fatalf("At(%x, %d, %d): %x, %d, then %x, %d", bytes, n, width, word, noWord, again, errno)
		}
		if again := Bytes(n, width); again != count || count < 0 {
			t.Fatalf("Bytes(%d, %d): %d, then %d", n, width, count, again)
		}
		if noPut != api.OK && put != "" || noTaken != api.OK && len(taken) != 0 || noWord != api.OK && word != 0 {
			t.Fatalf("beside an error: %x, %x, %x", put, taken, word)
		}
		argAlone := noPut == api.OK || noPut == api.ErrArg
		argOrForm := noTaken == api.OK || noTaken == api.ErrArg || noTaken == api.ErrForm
		argOrNone := noWord == api.OK || noWord == api.ErrArg || noWord == api.ErrNone
		if !argAlone || !argOrForm || !argOrNone {
			t.Fatalf("of %x, %x, %d, %d: %d, %d, %d", l, bytes, n, width, noPut, noTaken, noWord)
		}
	}
}
