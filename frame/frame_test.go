package frame

import (
	"math"
	"math/big"
	"peristyle/api"
	"slices"
	"strings"
	"testing"
)

const most = 1 << 16 // numbers of a list

var (
	someNumbers = []int{0, 1, -1, math.MinInt, math.MaxInt, 2, -2, 5, 63, 64, -64, -65, 1 << 31, 1 << 32, -1 << 32, 1<<62 - 1, 1 << 62, -1 << 62, -1<<62 - 1, math.MinInt + 1, math.MaxInt - 1}
	wrongCounts = []int{-1, -2, -8, -most, -most - 1, most + 1, most + 2, 2 * most, 1 << 31, 1 << 32, 1<<32 + 1, 1<<32 + 4, -1 << 32, 1 << 58, 1 << 62, math.MinInt, math.MinInt + 1, math.MinInt + 4, math.MaxInt - 1, math.MaxInt}
	around      = new(big.Int).Lsh(big.NewInt(1), 64)
)

// stirrer gives numbers by a fixed rule.
type stirrer struct{ word uint64 }

func stir(seed int) *stirrer { return &stirrer{uint64(seed)*2 + 1} }

func (s *stirrer) below(n int) int {
	s.word = s.word*6364136223846793005 + 1442695040888963407
	return int(s.word >> 33 % uint64(n))
}

// number is one of at most so many bits, of either sign.
func (s *stirrer) number(bits int) int {
	word := s.below(1<<31)<<33 ^ s.below(1<<31)<<15 ^ s.below(1<<31)
	return word >> (64 - bits)
}

// numbers are some, so many, that are steps of at most so many bits from one another.
func (s *stirrer) numbers(count, bits int) []int {
	l := make([]int, count)
	at, drift := s.number(64), s.number(1+s.below(64))
	for k := range l {
		l[k] = at
		at += drift + s.number(bits)
	}
	return l
}

// The chapter's words, by great numbers.

// vintOf are the bytes of a number of layer 2.
func vintOf(n int) string {
	zig := new(big.Int).Lsh(big.NewInt(int64(n)), 1)
	if n < 0 {
		zig.Not(zig)
	}
	var s []byte
	for word := zig.Uint64(); ; word /= 128 {
		if word < 128 {
			return string(append(s, byte(word)))
		}
		s = append(s, byte(word%128+128))
	}
}

// far is how far b is from a.
func far(a, b int) *big.Int {
	step := new(big.Int).Sub(big.NewInt(int64(b)), big.NewInt(int64(a)))
	switch {
	case step.Cmp(big.NewInt(math.MaxInt)) > 0:
		step.Sub(step, around)
	case step.Cmp(big.NewInt(math.MinInt)) < 0:
		step.Add(step, around)
	}
	return step
}

// packedOf are words as bytes, of so many bits each, bit by bit.
func packedOf(words []uint64, width int) string {
	s := make([]byte, (len(words)*width+7)/8)
	for k, word := range words {
		for bit := range width {
			s[(k*width+bit)/8] |= byte(word>>bit&1) << ((k*width + bit) % 8)
		}
	}
	return string(s)
}

// laid are the bytes of a first number, a least step, and words of so many bits, whether they are numbers' own or not.
func laid(first, least int, words []uint64, width int) string {
	return vintOf(first) + vintOf(least) + string([]byte{byte(width)}) + packedOf(words, width)
}

// partsOf are, of two numbers or more, the least step, the words, and the least width that will do.
func partsOf(l []int) (least int, words []uint64, width int) {
	low := far(l[0], l[1])
	for k := range len(l) - 1 {
		if step := far(l[k], l[k+1]); step.Cmp(low) < 0 {
			low = step
		}
	}
	for k := range len(l) - 1 {
		word := new(big.Int).Sub(far(l[k], l[k+1]), low)
		words = append(words, word.Uint64())
		width = max(width, word.BitLen())
	}
	return int(low.Int64()), words, width
}

// bytesOf are the bytes of numbers.
func bytesOf(l []int) string {
	switch len(l) {
	case 0:
		return ""
	case 1:
		return vintOf(l[0])
	}
	least, words, width := partsOf(l)
	return laid(l[0], least, words, width)
}

// vintAhead is the number of layer 2 that bytes begin with, and how many they are; 0 of none.
func vintAhead(s string) (int, int) {
	zig := new(big.Int)
	for k := range len(s) {
		zig.Add(zig, new(big.Int).Lsh(big.NewInt(int64(s[k]%128)), uint(7*k)))
		if s[k] < 128 {
			if zig.BitLen() > 64 || k > 0 && s[k] == 0 {
				return 0, 0
			}
			if zig.Bit(0) == 1 {
				return int(new(big.Int).Not(zig.Rsh(zig, 1)).Int64()), k + 1
			}
			return int(zig.Rsh(zig, 1).Int64()), k + 1
		}
	}
	return 0, 0
}

// wordsOf are the words of packed bytes, so many, of so many bits; false, if there are none.
func wordsOf(s string, n, width int) (words []*big.Int, ok bool) {
	if width > 64 || len(s) != (n*width+7)/8 {
		return nil, false
	}
	high := []byte(s)
	slices.Reverse(high)
	whole := new(big.Int).SetBytes(high)
	limit := new(big.Int).Lsh(big.NewInt(1), uint(width))
	for range n {
		words = append(words, new(big.Int).Mod(whole, limit))
		whole.Rsh(whole, uint(width))
	}
	return words, whole.Sign() == 0
}

// numbersOf are the numbers of bytes, so many; false, if they are no such numbers' own.
func numbersOf(s string, n int) ([]int, bool) {
	if n == 0 {
		return nil, s == ""
	}
	first, used := vintAhead(s)
	if n == 1 {
		return []int{first}, used > 0 && used == len(s)
	}
	least, more := vintAhead(s[used:])
	if used == 0 || more == 0 || used+more == len(s) {
		return nil, false
	}
	width := int(s[used+more])
	words, ok := wordsOf(s[used+more+1:], n-1, width)
	if !ok {
		return nil, false
	}
	l := []int{first}
	needs, hasNought := 0, false
	for k, word := range words {
		needs, hasNought = max(needs, word.BitLen()), hasNought || word.Sign() == 0
		step := new(big.Int).Add(big.NewInt(int64(least)), word)
		if !step.IsInt64() {
			return nil, false // it goes round, and is less than the least one
		}
		l = append(l, l[k]+int(step.Int64()))
	}
	return l, hasNought && needs == width
}

// short is a list as it is told: its beginning alone.
func short[T any](l []T) []T { return l[:min(len(l), 20)] }

// puts fails if Put answers other bytes, or Size another number of them.
func puts(t *testing.T, l []int, want string) {
	t.Helper()
	if got, errno := Put(l); got != want || errno != api.OK {
		t.Errorf("Put of %d numbers, %d..: %x.., %d, not %x..", len(l), short(l), short([]byte(got)), errno, short([]byte(want)))
	}
	if got := Size(l); got != len(want) {
		t.Errorf("Size of %d numbers, %d..: %d, not %d", len(l), short(l), got, len(want))
	}
}

// takes fails if Take answers other numbers.
func takes(t *testing.T, s string, want []int) {
	t.Helper()
	if got, errno := Take(s, len(want)); !slices.Equal(got, want) || errno != api.OK {
		t.Errorf("Take of %d bytes, %x.., %d: %d.., %d, not %d..", len(s), short([]byte(s)), len(want), short(got), errno, short(want))
	}
}

// takesNone fails if Take does not answer that error, and nothing beside.
func takesNone(t *testing.T, s string, n int, want api.Errno) {
	t.Helper()
	if got, errno := Take(s, n); len(got) != 0 || errno != want {
		t.Errorf("Take of %d bytes, %x.., %d: %d.., %d, not %d alone", len(s), short([]byte(s)), n, short(got), errno, want)
	}
}

// goes fails if numbers are not put as those bytes, and taken of them.
func goes(t *testing.T, l []int, bytes string) {
	t.Helper()
	puts(t, l, bytes)
	takes(t, bytes, l)
}

// takesAsMeant fails if Take of a count that may be answers otherwise than the chapter's words, and tells whether there are numbers.
func takesAsMeant(t *testing.T, s string, n int) bool {
	t.Helper()
	l, ok := numbersOf(s, n)
	if ok {
		takes(t, s, l)
	} else {
		takesNone(t, s, n, api.ErrForm)
	}
	return ok
}

// Fr1

func TestPutAndTake(t *testing.T) {
	for _, c := range []struct {
		l     []int
		bytes string
	}{
		{[]int{5, 6, 7, 8}, "\x0a\x02\x00"}, {[]int{5, 5, 6}, "\x0a\x00\x01\x02"}, // the chapter's examples
		{nil, ""}, {[]int{}, ""},
		{[]int{0}, "\x00"}, {[]int{1}, "\x02"}, {[]int{-1}, "\x01"}, {[]int{64}, "\x80\x01"}, {[]int{-64}, "\x7f"},
		{[]int{math.MinInt}, "\xff\xff\xff\xff\xff\xff\xff\xff\xff\x01"}, {[]int{math.MaxInt}, "\xfe\xff\xff\xff\xff\xff\xff\xff\xff\x01"},
		{[]int{0, 0}, "\x00\x00\x00"}, {[]int{0, 1}, "\x00\x02\x00"}, {[]int{0, -1}, "\x00\x01\x00"}, {[]int{1, 0}, "\x02\x01\x00"}, {[]int{-1, 1}, "\x01\x04\x00"}, {[]int{5, 69}, "\x0a\x80\x01\x00"},
		{[]int{5, 8, 6}, "\x0a\x03\x03\x05"}, {[]int{5, 6, 5}, "\x0a\x01\x02\x02"}, {[]int{5, 4, 5}, "\x0a\x01\x02\x08"},
		{[]int{0, 1, 3, 6, 10}, "\x00\x02\x02\xe4"}, {[]int{0, 4, 7, 9, 10}, "\x00\x02\x02\x1b"},
		{[]int{0, 0, 0, 0, 0, 0, 0, 0, 1}, "\x00\x00\x01\x80"}, {[]int{0, 0, 0, 0, 0, 0, 0, 0, 0, 1}, "\x00\x00\x01\x00\x01"},
		{[]int{0, 0, 255}, "\x00\x00\x08\x00\xff"}, {[]int{0, 255, 255}, "\x00\x00\x08\xff\x00"}, {[]int{0, 0, 256}, "\x00\x00\x09\x00\x00\x02"},
		// just -2^63 and 2^63 - 1 from the one ahead
		{[]int{0, math.MinInt}, "\x00\xff\xff\xff\xff\xff\xff\xff\xff\xff\x01\x00"}, {[]int{math.MinInt, 0}, "\xff\xff\xff\xff\xff\xff\xff\xff\xff\x01\xff\xff\xff\xff\xff\xff\xff\xff\xff\x01\x00"},
		{[]int{0, math.MaxInt}, "\x00\xfe\xff\xff\xff\xff\xff\xff\xff\xff\x01\x00"}, {[]int{math.MinInt, -1}, "\xff\xff\xff\xff\xff\xff\xff\xff\xff\x01\xfe\xff\xff\xff\xff\xff\xff\xff\xff\x01\x00"},
		// differences that go round, up and down
		{[]int{math.MaxInt, math.MinInt}, "\xfe\xff\xff\xff\xff\xff\xff\xff\xff\x01\x02\x00"}, {[]int{math.MinInt, math.MaxInt}, "\xff\xff\xff\xff\xff\xff\xff\xff\xff\x01\x01\x00"},
		{[]int{1, math.MinInt}, "\x02\xfe\xff\xff\xff\xff\xff\xff\xff\xff\x01\x00"}, {[]int{-1, math.MaxInt}, "\x01\xff\xff\xff\xff\xff\xff\xff\xff\xff\x01\x00"}, {[]int{-2, math.MaxInt}, "\x03\xfd\xff\xff\xff\xff\xff\xff\xff\xff\x01\x00"},
		// words of 63 and 64 bits
		{[]int{0, 0, math.MaxInt}, "\x00\x00\x3f" + strings.Repeat("\x00", 7) + "\x80" + strings.Repeat("\xff", 7) + "\x3f"},
		{[]int{0, math.MinInt, -1}, "\x00\xff\xff\xff\xff\xff\xff\xff\xff\xff\x01\x40" + strings.Repeat("\x00", 8) + strings.Repeat("\xff", 8)},
		{[]int{0, math.MinInt, math.MinInt}, "\x00\xff\xff\xff\xff\xff\xff\xff\xff\xff\x01\x40" + strings.Repeat("\x00", 15) + "\x80"},
		{[]int{0, -1, math.MaxInt - 1}, "\x00\x01\x40" + strings.Repeat("\x00", 15) + "\x80"},
	} {
		goes(t, c.l, c.bytes)
	}
}

// All lists of up to three of some numbers, and the first one again behind three.
func TestOfFewNumbers(t *testing.T) {
	lists := [][]int{nil}
	for first := 0; first < len(lists) && len(lists[first]) < 3; first++ {
		for _, n := range someNumbers {
			lists = append(lists, append(slices.Clone(lists[first]), n))
		}
	}
	for _, l := range lists {
		goes(t, l, bytesOf(l))
		if len(l) == 3 {
			l = append(l, l[0])
			goes(t, l, bytesOf(l))
		}
	}
}

// Words of each number of bits, from the least to the greatest one, ahead of the least step and behind it.
func TestOfEachWidth(t *testing.T) {
	for width := range 65 {
		greatest := uint64(1)<<width - 1
		lowest := greatest - greatest/2 // the greatest bit alone
		for _, least := range []int{math.MinInt, math.MinInt + 1, -1 << 62, -1, 0, 1, math.MaxInt - 1, math.MaxInt} {
			if greatest > uint64(math.MaxInt)-uint64(least) {
				continue // a step would be no number
			}
			for _, words := range [][]uint64{{0, lowest}, {lowest, 0}, {0, greatest}, {greatest, 0, lowest}, {0, 0, greatest, greatest}, {0, lowest, 0, greatest / 2, 0, 0, 0, 0, 0}} {
				l := []int{7}
				for k, word := range words {
					l = append(l, l[k]+least+int(word))
				}
				goes(t, l, laid(7, least, words, width))
			}
		}
	}
}

func TestOfManyLists(t *testing.T) {
	s := stir(1)
	for bits := 1; bits <= 64; bits++ {
		for count := range 70 {
			l := s.numbers(count, bits)
			goes(t, l, bytesOf(l))
		}
	}
}

func TestOfMostNumbers(t *testing.T) {
	s := stir(2)
	for _, bits := range []int{1, 2, 7, 8, 33, 63, 64} {
		l := s.numbers(most+1, bits)
		goes(t, l[:most], bytesOf(l[:most]))
		goes(t, l[2:most], bytesOf(l[2:most]))
		for _, many := range [][]int{l, slices.Concat(l, l)} {
			if got, errno := Put(many); got != "" || errno != api.ErrArg {
				t.Errorf("Put of %d numbers: %d bytes, %d, not ErrArg alone", len(many), len(got), errno)
			}
			if got := Size(many); got != 0 {
				t.Errorf("Size of %d numbers: %d", len(many), got)
			}
		}
		takesNone(t, bytesOf(l), most+1, api.ErrArg)
		takesNone(t, bytesOf(l), most, api.ErrForm)
	}
	goes(t, make([]int, most), "\x00\x00\x00")
	if got, errno := Put(make([]int, most+1)); got != "" || errno != api.ErrArg || Size(make([]int, most+1)) != 0 {
		t.Errorf("Put of too many noughts: %x, %d", got, errno)
	}
}

// ErrArg comes ahead of ErrForm: some of the bytes here are of no numbers besides.
func TestTakeOfWrongCounts(t *testing.T) {
	for _, s := range []string{"", "\x00", "\x80", "\x0a\x02\x00", "\x0a\x00\x01\x02", "\x0a\x02\xff", "\x00\x00\x00"} {
		for _, n := range wrongCounts {
			takesNone(t, s, n, api.ErrArg)
		}
	}
}

func TestTakeOfFewBytes(t *testing.T) {
	takes(t, "", nil)
	for _, n := range []int{1, 2, 3, 4, 64, most - 1, most} {
		takesNone(t, "", n, api.ErrForm)
		if n > 1 {
			takesNone(t, "\x0a", n, api.ErrForm)
			takesNone(t, "\x0a\x02", n, api.ErrForm)
		}
	}
	for _, s := range []string{"\x00", "\x0a", "\x80", "\xff", "\x0a\x02\x00", "\x0a\x00\x01\x02", strings.Repeat("\x00", 64)} {
		takesNone(t, s, 0, api.ErrForm)
	}
}

// Bytes tell not how many numbers they are of: they are taken as each number of them that has such bytes, and as no other.
func TestTakeOfAnotherCount(t *testing.T) {
	for _, n := range []int{2, 3, 4, 5, 64, 1000, most} {
		l := make([]int, n)
		for k := range l {
			l[k] = 5 + k
		}
		takes(t, "\x0a\x02\x00", l)
	}
	takesNone(t, "\x0a\x02\x00", 0, api.ErrForm)
	takesNone(t, "\x0a\x02\x00", 1, api.ErrForm)
	takes(t, "\x0a\x00\x01\x02", []int{5, 5, 6, 6, 6, 6, 6, 6, 6})
	takesNone(t, "\x0a\x00\x01\x02", 2, api.ErrForm)
	takesNone(t, "\x0a\x00\x01\x02", 10, api.ErrForm)
	takesNone(t, "\x0a", 2, api.ErrForm)
	s := stir(3)
	for bits := 1; bits <= 64; bits++ {
		for count := range 12 {
			bytes := bytesOf(s.numbers(count, bits))
			for n := range 40 {
				takesAsMeant(t, bytes, n)
			}
			if count > 2 {
				takesAsMeant(t, bytes, most)
			}
		}
	}
}

func TestTakeOfBytesThatAreCutOff(t *testing.T) {
	s := stir(4)
	lists := [][]int{{0}, {64}, {math.MinInt}, {0, 0}, {0, math.MinInt}, {math.MinInt, 0}, {5, 6, 7, 8}, {5, 5, 6}, {5, 8, 6}, {0, math.MinInt, -1}}
	for bits := 1; bits <= 64; bits++ {
		lists = append(lists, s.numbers(9, bits), s.numbers(17, bits))
	}
	for _, l := range lists {
		bytes := bytesOf(l)
		takes(t, bytes, l)
		for k := range len(bytes) {
			takesNone(t, bytes[:k], len(l), api.ErrForm)
			takesAsMeant(t, bytes[k+1:], len(l))
		}
		for behind := 1; behind <= 17; behind++ {
			for _, b := range []string{"\x00", "\x01", "\x80", "\xff"} {
				takesNone(t, bytes+strings.Repeat(b, behind), len(l), api.ErrForm)
			}
		}
	}
}

// Bytes that are none of a number of layer 2: with a needless group, with too many bits or bytes, cut off.
func TestTakeOfWrongNumbers(t *testing.T) {
	nines := strings.Repeat("\xff", 9)
	wrong := []string{"\x80\x00", "\x8a\x00", "\xff\x00", "\x80\x80\x00", "\x8a\x80\x00", nines + "\x00", nines + "\x02", nines + "\x03", nines + "\x7f", nines + "\x80\x00", nines + "\x81\x00", nines + "\x81\x01", strings.Repeat("\x80", 9) + "\x02", strings.Repeat("\x80", 10) + "\x01", strings.Repeat("\x80", 64)}
	for _, number := range wrong {
		takesNone(t, number, 1, api.ErrForm)
		for _, behind := range []string{"\x02\x00", "\x00\x00", "\x02\x01\x02", "\x00", "", "\x00\x00\x00"} {
			for n := range 8 {
				takesNone(t, number+behind, n, api.ErrForm)
				if n != 1 {
					takesNone(t, "\x0a"+number+behind, n, api.ErrForm)
				}
			}
		}
	}
	for _, cut := range []string{"\x80", "\xff", nines, "\x80\x80"} {
		takesNone(t, cut, 1, api.ErrForm)
		takesNone(t, cut, 2, api.ErrForm)
		takesNone(t, "\x0a"+cut, 2, api.ErrForm)
		takesNone(t, "\x0a"+cut, 4, api.ErrForm)
	}
}

func TestTakeOfWiderWords(t *testing.T) {
	s := stir(5)
	for bits := 1; bits <= 64; bits++ {
		for _, count := range []int{2, 3, 4, 9, 10} {
			l := s.numbers(count, bits)
			least, words, width := partsOf(l)
			takes(t, laid(l[0], least, words, width), l)
			for wide := width + 1; wide <= 64; wide++ {
				takesNone(t, laid(l[0], least, words, wide), count, api.ErrForm)
			}
			for _, none := range []int{65, 66, 72, 127, 128, 128 + width, 192, 254, 255} {
				takesNone(t, laid(l[0], least, words, none), count, api.ErrForm)
				takesNone(t, vintOf(l[0])+vintOf(least)+string([]byte{byte(none)})+packedOf(words, width), count, api.ErrForm)
				takesNone(t, vintOf(l[0])+vintOf(least)+string([]byte{byte(none)}), count, api.ErrForm)
			}
		}
	}
	takesNone(t, "\x0a\x02\x01\x00", 4, api.ErrForm)
	takesNone(t, "\x0a\x02\x01\x00", 2, api.ErrForm)
	takesNone(t, "\x0a\x00\x02\x04", 3, api.ErrForm)
}

// A least step that is less than each, or more than one that then goes round, is none, though the numbers would be the same.
func TestTakeOfAnotherLeastStep(t *testing.T) {
	s := stir(6)
	for bits := 1; bits <= 64; bits++ {
		for _, count := range []int{2, 3, 4, 9} {
			l := s.numbers(count, bits)
			least, words, width := partsOf(l)
			for _, by := range []int{1, 2, 3, 64, 1 << 31, 1 << 62, math.MaxInt, math.MinInt, -1, -2, -64, -1 << 62} {
				needs := 0
				other := make([]uint64, len(words))
				for k, word := range words {
					other[k] = word + uint64(by)
					needs = max(needs, new(big.Int).SetUint64(other[k]).BitLen())
				}
				takesNone(t, laid(l[0], least-by, other, needs), count, api.ErrForm)
				takesNone(t, laid(l[0], least-by, other, max(needs, width)), count, api.ErrForm)
				takesNone(t, laid(l[0], least-by, other, 64), count, api.ErrForm)
			}
		}
	}
	takesNone(t, "\x0a\x00\x01\x07", 4, api.ErrForm)                                    // 5, 6, 7, 8 by steps from 0 on
	takesNone(t, "\x00"+vintOf(math.MaxInt)+"\x01\x02", 3, api.ErrForm)                 // a step that goes round
	takesNone(t, "\x00\x00\x40"+strings.Repeat("\x00", 15)+"\x80", 3, api.ErrForm)      // likewise
	takes(t, "\x00\x01\x40"+strings.Repeat("\x00", 15)+"\x80", []int{0, -1, 1<<63 - 2}) // and one that does just not
}

// A bit that fills the last byte may not be set.
func TestTakeOfFillingBitsThatAreSet(t *testing.T) {
	s := stir(7)
	for bits := 1; bits <= 64; bits++ {
		for count := 3; count <= 10; count++ {
			l := s.numbers(count, bits)
			bytes := bytesOf(l)
			_, words, width := partsOf(l)
			last := len(bytes) - 1
			for bit := range 8 {
				changed := bytes[:last] + string([]byte{bytes[last] ^ 1<<bit})
				if used := len(words) * width % 8; used > 0 && bit >= used {
					takesNone(t, changed, count, api.ErrForm)
				} else {
					takesAsMeant(t, changed, count)
				}
			}
		}
	}
	takesNone(t, "\x0a\x00\x01\x06", 3, api.ErrForm)
	takesNone(t, "\x0a\x00\x01\x82", 3, api.ErrForm)
	takes(t, "\x0a\x00\x01\x82", []int{5, 5, 6, 6, 6, 6, 6, 6, 7})
}

// Any short bytes, with each small count.
func TestTakeOfAnyBytes(t *testing.T) {
	const letters = "\x00\x01\x02\x03\x07\x08\x40\x41\x7f\x80\xff"
	all := []string{""}
	for first := 0; first < len(all) && len(all[first]) < 5; first++ {
		for k := range len(letters) {
			all = append(all, all[first]+letters[k:k+1])
		}
	}
	taken := 0
	for _, bytes := range all {
		for n := range 7 {
			if takesAsMeant(t, bytes, n) {
				taken++
			}
		}
		if t.Failed() {
			t.FailNow()
		}
	}
	if taken < 10000 {
		t.Errorf("%d alone were taken", taken)
	}
}

// The bytes of numbers, of which one is another byte.
func TestTakeOfChangedBytes(t *testing.T) {
	s := stir(8)
	for k := range 256 {
		count := 1 + s.below(12)
		bytes := []byte(bytesOf(s.numbers(count, 1+k%64)))
		for at, b := range bytes {
			for bit := range 8 {
				for _, changed := range []byte{b ^ 1<<bit, b + 1<<bit, b - 1<<bit} {
					bytes[at] = changed
					takesAsMeant(t, string(bytes), count)
				}
			}
			bytes[at] = b
		}
	}
}

// Fr2

func TestWhatIsPutIsTaken(t *testing.T) {
	s := stir(9)
	for k := range 5000 {
		l := s.numbers(s.below(80), 1+k%64)
		for range s.below(3) * min(len(l), 1) {
			l[s.below(len(l))] = someNumbers[s.below(len(someNumbers))]
		}
		put, errno := Put(l)
		if errno != api.OK || len(put) != Size(l) {
			t.Fatalf("Put(%d): %x, %d; Size: %d", l, put, errno, Size(l))
		}
		takes(t, put, l)
	}
	l := s.numbers(most, 64)
	put, _ := Put(l)
	takes(t, put, l)
}

func TestWhatIsTakenIsPut(t *testing.T) {
	s := stir(10)
	taken := 0
	for range 200000 {
		bytes := make([]byte, s.below(7))
		for k := range bytes {
			bytes[k] = byte(s.below(1 << (1 + s.below(8))))
		}
		if l, errno := Take(string(bytes), s.below(9)); errno == api.OK {
			taken++
			puts(t, l, string(bytes))
		}
	}
	if taken < 10000 {
		t.Errorf("%d alone were taken", taken)
	}
}

// Numbers that are as far from one another each, up, down and not at all, also where they go round, need no bits.
func TestOfEvenSteps(t *testing.T) {
	for _, first := range someNumbers {
		for _, step := range someNumbers {
			want := vintOf(first) + vintOf(step) + "\x00"
			l := []int{first}
			for len(l) < 70 {
				l = append(l, l[len(l)-1]+step)
				goes(t, l, want)
			}
		}
	}
	for _, step := range []int{0, 1, -1, 1 << 48, math.MinInt, math.MaxInt} {
		l := []int{math.MaxInt}
		for len(l) < most {
			l = append(l, l[len(l)-1]+step)
		}
		goes(t, l, vintOf(math.MaxInt)+vintOf(step)+"\x00")
	}
	if got := Size(make([]int, 64)); got != 3 {
		t.Errorf("64 noughts have %d bytes", got)
	}
}

// R1 to R4

// What is handed in stays as it is, what lies behind its end is not read, and what is answered is new memory.
func TestRulesOfLists(t *testing.T) {
	l := []int{5, 6, 7, 8, -1, 900}
	puts(t, l[:4], "\x0a\x02\x00")
	puts(t, l[:2], "\x0a\x02\x00")
	puts(t, l[:1], "\x0a")
	puts(t, l[:0], "")
	puts(t, l[1:3], "\x0c\x02\x00")
	if !slices.Equal(l, []int{5, 6, 7, 8, -1, 900}) {
		t.Errorf("what was handed in became %d", l)
	}
	for _, n := range []int{1, 2, 4} {
		s := bytesOf(l[:n])
		first, _ := Take(s, n)
		second, _ := Take(s, n)
		clear(first)
		_ = append(first[:1], 9, 9, 9)
		if !slices.Equal(second, l[:n]) {
			t.Errorf("two answers share memory: %d", second)
		}
		takes(t, s, l[:n])
	}
	long := "\xff\x0a\x00\x01\x02\x00"
	takes(t, long[1:5], []int{5, 5, 6})
	takesNone(t, long[1:4], 3, api.ErrForm)
	takesNone(t, long[1:3], 2, api.ErrForm)
}

// No call panics, whatever it is given, and the same is answered again; beside an error there is nothing.
func TestAnyArguments(t *testing.T) {
	s := stir(11)
	counts := slices.Concat(wrongCounts, []int{0, 1, 2, 3, 4, 5, 8, 9, 16, 17, 64, 65, most - 1, most})
	for range 50000 {
		bytes := make([]byte, s.below(14))
		for k := range bytes {
			bytes[k] = byte(s.below(1 << (1 + s.below(8))))
		}
		n := counts[s.below(len(counts))]
		l := s.numbers(s.below(6), 1+s.below(64))
		put, noPut := Put(l)
		taken, noTaken := Take(string(bytes), n)
		size := Size(l)
		Put(taken)
		Take(put, 3)
		if again, errno := Put(l); again != put || errno != noPut || errno != api.OK || Size(l) != size {
			t.Fatalf("Put(%d): %x, %d, then %x, %d", l, put, noPut, again, errno)
		}
		if again, errno := Take(string(bytes), n); !slices.Equal(again, taken) || errno != noTaken {
			t.Fatalf("Take(%x, %d): %d, %d, then %d, %d", bytes, n, short(taken), noTaken, short(again), errno)
		}
		if noTaken != api.OK && noTaken != api.ErrArg && noTaken != api.ErrForm || noTaken != api.OK && len(taken) != 0 || noTaken == api.OK && len(taken) != n {
			t.Fatalf("Take(%x, %d): %d, %d", bytes, n, short(taken), noTaken)
		}
	}
}
