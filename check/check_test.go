package check

import (
	"hash/crc32"
	"peristyle/api"
	"strings"
	"testing"
)

// sumByWords is the sum once more, by the chapter's words: bit by bit, the 32 bits of the number as truths, the lowest first.
func sumByWords(s string) int {
	var number [32]bool
	for k := range number {
		number[k] = true
	}
	for at := range 8 * len(s) {
		fallen := number[0]
		copy(number[:], number[1:])
		number[31] = false
		if fallen == bitOf(s, at) {
			continue
		}
		for k := range number {
			if 0x82f63b78>>k&1 == 1 {
				number[k] = !number[k]
			}
		}
	}
	sum := 0
	for k, set := range number {
		if !set {
			sum += 1 << k
		}
	}
	return sum
}

// bitOf is whether the bit is set that stands at a place among all bits, those of a byte from the lowest one on.
func bitOf(s string, at int) bool { return s[at/8]>>(at%8)&1 == 1 }

// sealedByWords are bytes with the sum's four behind, by divisions.
func sealedByWords(s string) string {
	sum := sumByWords(s)
	return s + string([]byte{byte(sum % 256), byte(sum / 256 % 256), byte(sum / 65536 % 256), byte(sum / 16777216)})
}

// stirred are bytes that a fixed rule stirs.
func stirred(seed, count int) string {
	word := uint64(seed)
	bytes := make([]byte, count)
	for k := range bytes {
		word = word*6364136223846793005 + 1442695040888963407
		bytes[k] = byte(word >> 56)
	}
	return string(bytes)
}

// someTexts are no bytes, each single byte, texts of equal bytes, and stirred ones of all small lengths and of some greater.
func someTexts() []string {
	l := []string{"", "a", "abc", "123456789", "peristyle", "äöü", "\xff\xfe\xfd", "The quick brown fox jumps over the lazy dog"}
	for b := range 256 {
		l = append(l, string([]byte{byte(b)}))
	}
	for count := range 70 {
		l = append(l, strings.Repeat("\x00", count), strings.Repeat("\xff", count), stirred(count+1, count))
	}
	for _, count := range []int{127, 128, 129, 255, 256, 257, 1000, 4096} {
		l = append(l, strings.Repeat("\x00", count), strings.Repeat("\xff", count), stirred(count, count))
	}
	return l
}

func TestSumsThatAreKnown(t *testing.T) {
	rising := make([]byte, 32)
	falling := make([]byte, 32)
	for k := range rising {
		rising[k] = byte(k)
		falling[k] = byte(31 - k)
	}
	for _, c := range []struct {
		s    string
		want int
	}{
		{"123456789", 0xe3069283}, {"", 0}, {"a", 0xc1d04330}, {"\x00", 0x527d5351}, {"\xff", 0xff000000},
		{strings.Repeat("\x00", 32), 0x8a9136aa}, {strings.Repeat("\xff", 32), 0x62a8ab43},
		{string(rising), 0x46dd794e}, {string(falling), 0x113fdb5c}, {"\xff\xff\xff\xff", 0xffffffff},
	} {
		if got := Sum(c.s); got != c.want {
			t.Errorf("Sum(%x): %08x, not %08x", c.s, got, c.want)
		}
		if got := sumByWords(c.s); got != c.want {
			t.Errorf("the model's sum of %x: %08x, not %08x", c.s, got, c.want)
		}
	}
}

// TestSum is Ch1, of Sum, held against the chapter's words and against the library's CRC-32C.
func TestSum(t *testing.T) {
	castagnoli := crc32.MakeTable(crc32.Castagnoli)
	for _, s := range someTexts() {
		got := Sum(s)
		if want := sumByWords(s); got != want {
			t.Errorf("Sum of %d bytes, %.20x: %08x, not %08x", len(s), s, got, want)
		}
		if want := int(crc32.Checksum([]byte(s), castagnoli)); got != want {
			t.Errorf("Sum of %d bytes, %.20x: %08x, by the library %08x", len(s), s, got, want)
		}
	}
}

// TestMore is Ch1, of More: a text parted at each of its places.
func TestMore(t *testing.T) {
	for _, s := range someTexts() {
		if len(s) > 300 {
			continue
		}
		want := sumByWords(s)
		for k := range len(s) + 1 {
			if got := More(Sum(s[:k]), s[k:]); got != want {
				t.Errorf("More of %x and %x: %08x, not %08x", s[:k], s[k:], got, want)
			}
		}
		inSteps := 0
		for k := range len(s) {
			inSteps = More(inSteps, s[k:k+1])
		}
		if inSteps != want {
			t.Errorf("More of %x, byte by byte: %08x, not %08x", s, inSteps, want)
		}
	}
}

// TestMoreOfAnySum is Ch1: of a sum More takes the lowest 32 bits alone, and is a sum of these.
func TestMoreOfAnySum(t *testing.T) {
	above := []int{0, 1 << 32, 1 << 33, 1 << 62, api.MinInt, -1 << 32, 0x7fffffff << 32, 0x12345678 << 32}
	for _, first := range []string{"", "a", "123456789", "\xff", "\xff\xff\xff\xff", stirred(3, 50)} {
		for _, second := range []string{"", "x", "123456789", "\x00", "\xff\xff\xff\xff", stirred(4, 50)} {
			want := sumByWords(first + second)
			for _, bits := range above {
				if got := More(bits|sumByWords(first), second); got != want {
					t.Errorf("More(%x, %x): %08x, not %08x", bits|sumByWords(first), second, got, want)
				}
			}
		}
	}
	for _, sum := range []int{-1, -2, -1 << 31, -1<<31 - 1, -1<<32 + 1, -1<<32 - 1, api.MinInt, api.MinInt + 1, api.MaxInt, 1<<32 - 1, 1 << 32, 1<<32 + 1, 1<<31 - 1, 1 << 31} {
		if got := More(sum, ""); got != sum&0xffffffff {
			t.Errorf("More(%x, no bytes): %x, not the lowest 32 bits", sum, got)
		}
		if got, want := More(sum, "x"), More(sum&0xffffffff, "x"); got != want || got < 0 || got > 0xffffffff {
			t.Errorf("More(%x, x): %x, not %x", sum, got, want)
		}
	}
}

// TestSeal is Ch1, of Seal and of Open of what is sealed.
func TestSeal(t *testing.T) {
	for _, c := range []struct{ s, want string }{
		{"", "\x00\x00\x00\x00"}, {"a", "a\x30\x43\xd0\xc1"}, {"123456789", "123456789\x83\x92\x06\xe3"}, {"\xff", "\xff\x00\x00\x00\xff"},
	} {
		if got := Seal(c.s); got != c.want {
			t.Errorf("Seal(%x): %x, not %x", c.s, got, c.want)
		}
	}
	for _, s := range someTexts() {
		want := sealedByWords(s)
		if got := Seal(s); got != want {
			t.Errorf("Seal of %d bytes, %.20x: not these and their sum", len(s), s)
		}
		if got, e := Open(want); got != s || e != api.OK {
			t.Errorf("Open of %d bytes sealed, %.20x: %d bytes, %d", len(s), s, len(got), e)
		}
		twice := sealedByWords(want)
		if got, e := Open(twice); got != want || e != api.OK {
			t.Errorf("Open of %d bytes sealed twice, %.20x: %d bytes, %d", len(s), s, len(got), e)
		}
	}
}

// wantCorrupt holds that bytes are not sealed.
func wantCorrupt(t *testing.T, s, why string) {
	t.Helper()
	if got, e := Open(s); got != "" || e != api.ErrCorrupt {
		t.Errorf("%s: Open(%x): %x, %d, not ErrCorrupt alone", why, s, got, e)
	}
}

func TestOpenOfWrongBytes(t *testing.T) {
	for _, s := range []string{"", "\x00", "a", "\x00\x00", "ab", "\x00\x00\x00", "abc", "\x83\x92\x06"} {
		wantCorrupt(t, s, "fewer than four")
	}
	for _, s := range []string{
		"\x00\x00\x00\x01", "\x01\x00\x00\x00", "\xff\xff\xff\xff", "abcd", "\x00\x00\x00\x00\x00",
		"123456789", "123456789\x00\x00\x00\x00", "123456789\xe3\x06\x92\x83", "123456789\x83\x92\x06", "123456789\x83\x92\x06\xe2", "123456788\x83\x92\x06\xe3",
		"123456789\x83\x92\x06\xe3\x00", "\x00123456789\x83\x92\x06\xe3", "23456789\x83\x92\x06\xe3", "\x83\x92\x06\xe3123456789", "213456789\x83\x92\x06\xe3",
		"123456789\x7c\x6d\xf9\x1c", "a\xc1\xd0\x43\x30", "a\x30\x43\xd0\xc1\x30\x43\xd0\xc1",
	} {
		wantCorrupt(t, s, "a sum that is not theirs")
	}
}

// TestOpenOfAnySum is Ch1: each of the four bytes of a sum is looked at, whatever else it is.
func TestOpenOfAnySum(t *testing.T) {
	for _, s := range []string{"", "a", "123456789", stirred(9, 100)} {
		for k := range 4 {
			for b := range 256 {
				sealed := []byte(sealedByWords(s))
				was := sealed[len(s)+k]
				sealed[len(s)+k] = byte(b)
				if was != byte(b) {
					wantCorrupt(t, string(sealed), "another byte in the sum")
				}
			}
		}
	}
}

// TestOpenIsOfItsBytesAlone is Ch1: whatever is opened is what is sealed again; else it is corrupt.
func TestOpenIsOfItsBytesAlone(t *testing.T) {
	for seed := range 3000 {
		s := stirred(seed, seed%40)
		got, e := Open(s)
		sealed := len(s) >= 4 && sealedByWords(s[:len(s)-4]) == s
		if sealed && (got != s[:len(s)-4] || e != api.OK) || !sealed && (got != "" || e != api.ErrCorrupt) {
			t.Errorf("Open(%x): %x, %d", s, got, e)
		}
	}
}

// turned are bytes of which the bits of a pattern of 32 are turned, from a place on; those beyond the end are left out.
func turned(s string, at int, pattern uint32) string {
	bytes := []byte(s)
	for k := range 32 {
		if bit := at + k; pattern>>k&1 == 1 && bit < 8*len(bytes) {
			bytes[bit/8] ^= 1 << (bit % 8)
		}
	}
	return string(bytes)
}

// TestTurnedBitsAreTold is Ch2: from each bit on, at the beginning, in the text, across into the sum and in the sum alone, patterns of up to 32 bits.
func TestTurnedBitsAreTold(t *testing.T) {
	patterns := []uint32{1, 3, 5, 0xff, 0x101, 0x80000001, 0xffffffff, 0xaaaaaaab, 0x55555555, 0x82f63b79, 0x1edc6f41}
	for k := range 32 {
		patterns = append(patterns, 1|1<<k, 1<<k-1|1, 1|uint32(0x9e3779b9)>>k)
	}
	for _, s := range []string{"", "a", "1234", "123456789", strings.Repeat("\x00", 20), strings.Repeat("\xff", 20), stirred(5, 33), stirred(6, 124)} {
		sealed := Seal(s)
		for at := range 8 * len(sealed) {
			for _, pattern := range patterns {
				wantCorrupt(t, turned(sealed, at, pattern), "turned bits")
			}
		}
	}
}

// TestNoTurnsWithin32BitsCancel is Ch2, of all patterns: what each of the bits in a row does to text and sum are 32 numbers of which no some turn into 0.
func TestNoTurnsWithin32BitsCancel(t *testing.T) {
	unlike := func(s string) uint32 {
		end := len(s) - 4
		behind := uint32(s[end]) | uint32(s[end+1])<<8 | uint32(s[end+2])<<16 | uint32(s[end+3])<<24
		return uint32(Sum(s[:end])) ^ behind
	}
	for _, s := range []string{"", "a", "12345", stirred(7, 40), stirred(8, 124)} {
		sealed := Seal(s)
		for at := range 8*len(sealed) - 31 {
			var byHighest [32]uint32
			for k := range 32 {
				if left := reduced(unlike(turned(sealed, at, 1<<k)), &byHighest); left == 0 {
					t.Fatalf("%x: from bit %d on, some of the first %d bits cancel", sealed, at, k+1)
				}
			}
		}
	}
}

// reduced is a number turned by those with its highest bits, and kept if any is left.
func reduced(n uint32, byHighest *[32]uint32) uint32 {
	for k := 31; k >= 0; k-- {
		if n>>k&1 == 0 {
			continue
		}
		if byHighest[k] == 0 {
			byHighest[k] = n
			return n
		}
		n ^= byHighest[k]
	}
	return 0
}

// TestSumsOfThreeTexts is Ch2, of texts of one length.
func TestSumsOfThreeTexts(t *testing.T) {
	for count := range 200 {
		for _, texts := range [][3]string{
			{stirred(count+1, count), stirred(count+2, count), stirred(count+3, count)},
			{strings.Repeat("\x00", count), strings.Repeat("\xff", count), stirred(count+4, count)},
			{strings.Repeat("a", count), strings.Repeat("a", count), strings.Repeat("b", count)},
		} {
			into := make([]byte, count)
			for k := range into {
				into[k] = texts[0][k] ^ texts[1][k] ^ texts[2][k]
			}
			if got, want := Sum(texts[0])^Sum(texts[1])^Sum(texts[2]), Sum(string(into)); got != want {
				t.Errorf("three texts of %d bytes: %08x, not %08x", count, got, want)
			}
		}
	}
}

// TestRules is R1 to R4: no call panics, whatever it is given, sums have 32 bits, and the same is answered again.
func TestRules(t *testing.T) {
	for seed, s := range someTexts() {
		sum := int(uint(seed) * 0x9e3779b97f4a7c15)
		first, more, sealed := Sum(s), More(sum, s), Seal(s)
		opened, e := Open(s)
		Sum("other")
		More(-1, "other")
		Seal("other")
		Open("other")
		if first < 0 || first > 0xffffffff || more < 0 || more > 0xffffffff {
			t.Errorf("sums of %.20x: %x, %x", s, first, more)
		}
		if again, eAgain := Open(s); again != opened || eAgain != e || e != api.OK && opened != "" {
			t.Errorf("Open(%.20x): %x, %d, then %x, %d", s, opened, e, again, eAgain)
		}
		if Sum(s) != first || More(sum, s) != more || Seal(s) != sealed {
			t.Errorf("of %.20x something else was answered again", s)
		}
	}
}
