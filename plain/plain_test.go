package plain

import (
	"encoding/binary"
	"math"
	"math/big"
	"peristyle/api"
	"slices"
	"strings"
	"testing"
)

// xs is a text of so many bytes.
func xs(count int) string { return strings.Repeat("x", count) }

// one is a text of one byte.
func one(n int) string { return string([]byte{byte(n)}) }

var (
	someNumbers = []int{0, -1, math.MinInt, math.MaxInt, 1, 2, 127, 128, 255, 256, 258, -128, -129, -256, -257, 1<<31 - 1, 1 << 31, -1 << 31, 1 << 32, -1 << 32, 1 << 55, 1 << 56, 1 << 62, math.MinInt + 1, math.MaxInt - 1, 0x0807060504030201, 0x7766554433221180, 0x0180c0e0f0f8fcfe, -0x0102030405060708}
	someTexts   = []string{"", "\x00", "\x00\x00", "\x01", "\x20", "\x21", "a", "ab", "ba", "\x7f", "\x80", "\x80\xff", "\xc3\xa4", "\xff", "\xff\xff\xff", "it's", xs(31), xs(32), strings.Repeat("\xff", 32), strings.Repeat("\x00", 32), strings.Repeat("\x20", 32), strings.Repeat("\x80\x81", 16)}
	someCounts  = []int{math.MinInt, math.MinInt + 1, -1 << 61, -1 << 60, -1 << 32, -257, -256, -3, -2, -1, 0, 1, 2, 3, 4, 5, 8, 9, 16, 255, 256, 257, 1 << 16, 1 << 31, 1 << 32, 1<<32 + 1, 1<<60 - 1, 1 << 60, 1<<60 + 1, 1 << 61, 1<<61 + 1, 1<<61 + 2, 1 << 62, 1<<62 + 1, math.MaxInt - 1, math.MaxInt}
)

// stirrer gives numbers by a fixed rule.
type stirrer struct{ word uint64 }

func stir(seed int) *stirrer { return &stirrer{uint64(seed)*2 + 1} }

func (s *stirrer) below(n int) int {
	s.word = s.word*6364136223846793005 + 1442695040888963407
	return int(s.word >> 33 % uint64(n))
}

// some are items of a list, so many.
func some[T any](s *stirrer, l []T, count int) []T {
	out := make([]T, count)
	for k := range out {
		out[k] = l[s.below(len(l))]
	}
	return out
}

// each hands on all texts of up to so many letters.
func each(letters string, count int, then func(string)) {
	l := []string{""}
	for range count + 1 {
		var longer []string
		for _, s := range l {
			then(s)
			for k := range len(letters) {
				longer = append(longer, s+letters[k:k+1])
			}
		}
		l = longer
	}
}

// Pl1

// putsInts fails if PutInts answers other bytes.
func putsInts(t *testing.T, l []int, want string) {
	t.Helper()
	if got := PutInts(l); got != want {
		t.Errorf("PutInts(%x): %x, not %x", l, got, want)
	}
}

// takesInts fails if TakeInts answers other numbers.
func takesInts(t *testing.T, s string, want []int) {
	t.Helper()
	if got, errno := TakeInts(s, len(want)); !slices.Equal(got, want) || errno != api.OK {
		t.Errorf("TakeInts(%x, %d): %x, %d, not %x", s, len(want), got, errno, want)
	}
}

// takesNoInts fails if TakeInts does not answer ErrForm, and nothing beside.
func takesNoInts(t *testing.T, s string, n int) {
	t.Helper()
	if got, errno := TakeInts(s, n); len(got) != 0 || errno != api.ErrForm {
		t.Errorf("TakeInts(%x, %d): %x, %d, not ErrForm alone", s, n, got, errno)
	}
}

// intsOf are the bytes of numbers once more, by the library.
func intsOf(l []int) string {
	var s []byte
	for _, n := range l {
		s = binary.LittleEndian.AppendUint64(s, uint64(n))
	}
	return string(s)
}

func TestPutAndTakeInts(t *testing.T) {
	for _, c := range []struct {
		l     []int
		bytes string
	}{
		{[]int{258}, "\x02\x01\x00\x00\x00\x00\x00\x00"}, // the chapter's example
		{nil, ""},
		{[]int{}, ""},
		{[]int{0}, "\x00\x00\x00\x00\x00\x00\x00\x00"},
		{[]int{1}, "\x01\x00\x00\x00\x00\x00\x00\x00"},
		{[]int{-1}, "\xff\xff\xff\xff\xff\xff\xff\xff"},
		{[]int{-2}, "\xfe\xff\xff\xff\xff\xff\xff\xff"},
		{[]int{128}, "\x80\x00\x00\x00\x00\x00\x00\x00"},
		{[]int{-128}, "\x80\xff\xff\xff\xff\xff\xff\xff"},
		{[]int{255}, "\xff\x00\x00\x00\x00\x00\x00\x00"},
		{[]int{256}, "\x00\x01\x00\x00\x00\x00\x00\x00"},
		{[]int{1 << 32}, "\x00\x00\x00\x00\x01\x00\x00\x00"},
		{[]int{math.MinInt}, "\x00\x00\x00\x00\x00\x00\x00\x80"},
		{[]int{math.MaxInt}, "\xff\xff\xff\xff\xff\xff\xff\x7f"},
		{[]int{0x0807060504030201}, "\x01\x02\x03\x04\x05\x06\x07\x08"},
		{[]int{0x0180c0e0f0f8fcfe}, "\xfe\xfc\xf8\xf0\xe0\xc0\x80\x01"},
		{[]int{-0x7e7d7c7b7a797880}, "\x80\x87\x86\x85\x84\x83\x82\x81"},
		{[]int{258, -1}, "\x02\x01\x00\x00\x00\x00\x00\x00\xff\xff\xff\xff\xff\xff\xff\xff"},
		{[]int{0, 0, 7}, "\x00\x00\x00\x00\x00\x00\x00\x00\x00\x00\x00\x00\x00\x00\x00\x00\x07\x00\x00\x00\x00\x00\x00\x00"},
		{[]int{math.MaxInt, math.MinInt}, "\xff\xff\xff\xff\xff\xff\xff\x7f\x00\x00\x00\x00\x00\x00\x00\x80"},
	} {
		putsInts(t, c.l, c.bytes)
		takesInts(t, c.bytes, c.l)
	}
}

// A number is what its bytes say as a big one, the lowest first; less 2^64, if the highest bit is set.
func TestTakeIntsOfEachByteAtEachPlace(t *testing.T) {
	for place := range 8 {
		for value := range 256 {
			for _, around := range []byte{0, 0x5a, 0x80, 0xff} {
				low := slices.Repeat([]byte{around}, 8)
				low[place] = byte(value)
				high := slices.Clone(low)
				slices.Reverse(high)
				want := new(big.Int).SetBytes(high)
				if high[0] > 127 {
					want.Sub(want, new(big.Int).Lsh(big.NewInt(1), 64))
				}
				takesInts(t, string(low), []int{int(want.Int64())})
				putsInts(t, []int{int(want.Int64())}, string(low))
			}
		}
	}
}

// Each bit of a number stands in one byte, by itself.
func TestPutIntsOfEachBit(t *testing.T) {
	for bit := range 64 {
		want := strings.Repeat("\x00", bit/8) + one(1<<(bit%8)) + strings.Repeat("\x00", 7-bit/8)
		putsInts(t, []int{int(uint64(1) << bit)}, want)
		takesInts(t, want, []int{int(uint64(1) << bit)})
	}
}

func TestPutAndTakeIntsOfEachLength(t *testing.T) {
	s := stir(1)
	for count := range 300 {
		l := some(s, someNumbers, count)
		putsInts(t, l, intsOf(l))
		takesInts(t, intsOf(l), l)
	}
	long := some(s, someNumbers, 1<<16+1)
	putsInts(t, long, intsOf(long))
	takesInts(t, intsOf(long), long)
}

// Each count of bytes with each count of numbers: there are 8 of each, or they are none.
func TestTakeIntsOfOtherCounts(t *testing.T) {
	s := strings.Repeat("\x01\x80\xff\x00\x7f", 16)
	for bytes := range len(s) + 1 {
		for n := -12; n <= 12; n++ {
			if n >= 0 && bytes == 8*n {
				if l, errno := TakeInts(s[:bytes], n); len(l) != n || errno != api.OK {
					t.Errorf("TakeInts of %d bytes, %d: %x, %d", bytes, n, l, errno)
				}
			} else {
				takesNoInts(t, s[:bytes], n)
			}
		}
	}
	for _, n := range someCounts {
		for _, bytes := range []int{0, 1, 7, 8, 9, 15, 16, 17, 24} {
			if big.NewInt(int64(bytes)).Cmp(new(big.Int).Mul(big.NewInt(8), big.NewInt(int64(n)))) != 0 {
				takesNoInts(t, s[:bytes], n)
			}
		}
	}
}

// Bytes that are cut off at each place, or with others behind, are those of no so many numbers; n that is off by one is none of theirs.
func TestTakeIntsOfBytesThatAreCutOff(t *testing.T) {
	for _, l := range [][]int{nil, {0}, {-1}, {258, -1}, {math.MinInt, 0, math.MaxInt}, someNumbers} {
		s := intsOf(l)
		takesInts(t, s, l)
		takesNoInts(t, s, len(l)-1)
		takesNoInts(t, s, len(l)+1)
		takesNoInts(t, s, -len(l)-1)
		for k := range len(s) {
			takesNoInts(t, s[:k], len(l))
			takesNoInts(t, s[k+1:], len(l))
		}
		for behind := 1; behind <= 17; behind++ {
			takesNoInts(t, s+strings.Repeat("\x00", behind), len(l))
			takesNoInts(t, s+xs(behind), len(l))
		}
	}
}

// Pl2

// putsTexts fails if PutTexts answers other bytes.
func putsTexts(t *testing.T, l []string, want string) {
	t.Helper()
	if got, errno := PutTexts(l); got != want || errno != api.OK {
		t.Errorf("PutTexts(%q): %x, %d, not %x", l, got, errno, want)
	}
}

// putsNoTexts fails if PutTexts does not answer ErrArg, and nothing beside.
func putsNoTexts(t *testing.T, l []string) {
	t.Helper()
	if got, errno := PutTexts(l); got != "" || errno != api.ErrArg {
		t.Errorf("PutTexts(%q): %x, %d, not ErrArg alone", l, got, errno)
	}
}

// takesTexts fails if TakeTexts answers other texts.
func takesTexts(t *testing.T, s string, want []string) {
	t.Helper()
	if got, errno := TakeTexts(s, len(want)); !slices.Equal(got, want) || errno != api.OK {
		t.Errorf("TakeTexts(%x, %d): %q, %d, not %q", s, len(want), got, errno, want)
	}
}

// takesNoTexts fails if TakeTexts does not answer ErrForm, and nothing beside.
func takesNoTexts(t *testing.T, s string, n int) {
	t.Helper()
	if got, errno := TakeTexts(s, n); len(got) != 0 || errno != api.ErrForm {
		t.Errorf("TakeTexts(%x, %d): %q, %d, not ErrForm alone", s, n, got, errno)
	}
}

// textsOf are the bytes of texts once more, by the chapter's words.
func textsOf(l []string) string {
	s := ""
	for _, text := range l {
		s += one(len(text)) + text
	}
	return s
}

func TestPutAndTakeTexts(t *testing.T) {
	for _, c := range []struct {
		l     []string
		bytes string
	}{
		{[]string{"ab", ""}, "\x02\x61\x62\x00"}, // the chapter's example
		{nil, ""},
		{[]string{}, ""},
		{[]string{""}, "\x00"},
		{[]string{"", ""}, "\x00\x00"},
		{[]string{"", "", ""}, "\x00\x00\x00"},
		{[]string{"a"}, "\x01a"},
		{[]string{"", "a"}, "\x00\x01a"},
		{[]string{"a", ""}, "\x01a\x00"},
		{[]string{"\x00"}, "\x01\x00"},
		{[]string{"\x00", "\x01"}, "\x01\x00\x01\x01"},
		{[]string{"\x01a", "a"}, "\x02\x01a\x01a"},
		{[]string{"\x80", "\xff\xfe", "\xc3\xa4"}, "\x01\x80\x02\xff\xfe\x02\xc3\xa4"},
		{[]string{xs(31)}, "\x1f" + xs(31)},
		{[]string{xs(32)}, "\x20" + xs(32)},
		{[]string{"ab", "", xs(32)}, "\x02ab\x00\x20" + xs(32)},
		{[]string{strings.Repeat("\xff", 32), "b"}, "\x20" + strings.Repeat("\xff", 32) + "\x01b"},
	} {
		putsTexts(t, c.l, c.bytes)
		takesTexts(t, c.bytes, c.l)
	}
}

func TestPutAndTakeTextsOfEachLength(t *testing.T) {
	for count := range 600 {
		for _, letter := range []string{"x", "\x00", "\x20", "\x80", "\xff"} {
			text := strings.Repeat(letter, count)
			if count <= 32 {
				s := one(count) + text
				putsTexts(t, []string{text}, s)
				takesTexts(t, s, []string{text})
			} else {
				putsNoTexts(t, []string{text})
				takesNoTexts(t, one(count)+text, 1)
			}
		}
	}
}

func TestPutAndTakeTextsOfEachCount(t *testing.T) {
	s := stir(2)
	for count := range 300 {
		for _, l := range [][]string{some(s, someTexts, count), slices.Repeat([]string{""}, count), slices.Repeat([]string{xs(32)}, count)} {
			putsTexts(t, l, textsOf(l))
			takesTexts(t, textsOf(l), l)
		}
	}
	empty := make([]string, 1<<16+1)
	putsTexts(t, empty, strings.Repeat("\x00", 1<<16+1))
	takesTexts(t, strings.Repeat("\x00", 1<<16+1), empty)
}

// One text that is too long, ahead of, between or behind others, is enough.
func TestPutTextsOfTextsThatAreTooLong(t *testing.T) {
	for _, count := range []int{33, 34, 64, 127, 128, 255, 256, 257, 258, 288, 289, 512, 1 << 16} {
		for _, long := range []string{xs(count), strings.Repeat("\x00", count), strings.Repeat("\xff", count)} {
			for _, l := range [][]string{{long}, {long, "a"}, {"a", long}, {"a", long, "b"}, {"", "", long}, {long, "", ""}, {long, long}, {xs(32), long, xs(32)}, append(make([]string, 300), long)} {
				putsNoTexts(t, l)
			}
		}
	}
}

// Bytes that are cut off at each place, or with others behind, are those of no so many texts; n that is off by one is none of theirs.
func TestTakeTextsOfBytesThatAreCutOff(t *testing.T) {
	for _, l := range [][]string{nil, {""}, {"a"}, {"ab", ""}, {"", "ab"}, {"a", "b", "c"}, {xs(32)}, {xs(32), xs(32)}, {"\x80\xff"}, {"", "", "", ""}, someTexts} {
		s := textsOf(l)
		takesTexts(t, s, l)
		for _, n := range []int{len(l) - 1, len(l) + 1, len(l) + 256, -len(l) - 1} {
			takesNoTexts(t, s, n)
		}
		for k := range len(s) {
			takesNoTexts(t, s[:k], len(l))
		}
		for _, behind := range []string{"\x00", "\x01", "\x01a", "\x21", "\xff", "a", "\x00\x00", xs(300)} {
			takesNoTexts(t, s+behind, len(l))
		}
		takesTexts(t, s+"\x00", append(slices.Clone(l), ""))
		takesTexts(t, s+"\x02\x80\x01", append(slices.Clone(l), "\x80\x01"))
	}
}

func TestTakeTextsOfWrongBytes(t *testing.T) {
	for _, c := range []struct {
		s string
		n int
	}{
		{"", 1}, {"", 2}, {"", -1}, {"\x00", 0}, {"\x00", 2}, {"\x00", -1}, {"a", 0}, {"a", 1}, {"\x01a", 0}, {"\x01a", 2},
		// a last text whose bytes are not all there
		{"\x01", 1}, {"\x02a", 1}, {"\x20", 1}, {"\x20" + xs(31), 1}, {"\x00\x01", 2}, {"\x01a\x01", 2}, {"\x01a\x03bc", 2}, {"\x02ab\x00\x20" + xs(31), 3},
		// lengths that are none
		{"\x21" + xs(33), 1}, {"\x21" + xs(32), 1}, {"\x21", 1}, {"\x22" + xs(34), 1}, {"\x80" + xs(128), 1}, {"\x80", 1}, {"\xff" + xs(255), 1}, {"\xff", 1},
		{"\x01a\x21" + xs(33), 2}, {"\x21" + xs(33) + "\x01a", 2}, {"\x00\x80" + xs(128), 2}, {"\x00\xff" + xs(255), 2}, {"\xff" + xs(255) + "\x00", 2}, {"\x80\x01" + xs(128), 1}, {"\x82ab", 1},
	} {
		takesNoTexts(t, c.s, c.n)
	}
	for length := 33; length < 256; length++ {
		for _, s := range []string{one(length), one(length) + xs(length), one(length) + xs(300), one(length) + xs(length&31), one(length) + xs(length&63), one(length) + xs(length&127)} {
			takesNoTexts(t, s, 1)
			takesNoTexts(t, "\x00"+s, 2)
		}
	}
}

func TestTakeTextsOfOtherCounts(t *testing.T) {
	for _, l := range [][]string{nil, {""}, {"a"}, {"a", ""}, {"", "", ""}, {"\x00\x00\x00\x00"}} {
		for _, n := range someCounts {
			if n != len(l) {
				takesNoTexts(t, textsOf(l), n)
			}
		}
	}
}

// shortTexts are, by their bytes, all lists of up to so many bytes of texts of letters.
func shortTexts(letters string, count int) map[string][]string {
	var texts []string
	each(letters, count-1, func(s string) { texts = append(texts, s) })
	lists := map[string][]string{"": nil}
	work := [][]string{nil}
	for len(work) > 0 {
		l := work[0]
		work = work[1:]
		for _, text := range texts {
			longer := append(slices.Clone(l), text)
			if s := textsOf(longer); len(s) <= count {
				lists[s] = longer
				work = append(work, longer)
			}
		}
	}
	return lists
}

// All short bytes with each count: they are those of one list at most, and of its count alone.
func TestTakeTextsOfAnyBytes(t *testing.T) {
	const letters, count = "\x00\x01\x02\x21\x80a", 5
	lists := shortTexts(letters, count)
	each(letters, count, func(s string) {
		l, there := lists[s]
		for n := -1; n <= count+1; n++ {
			if there && n == len(l) {
				takesTexts(t, s, l)
			} else {
				takesNoTexts(t, s, n)
			}
		}
	})
}

// Pl3

// What is put is taken as it was, and of any bytes that are taken the same ones are put again.
func TestWhatIsPutIsTaken(t *testing.T) {
	s := stir(3)
	for k := range 3000 {
		numbers, texts := some(s, someNumbers, s.below(1+k%70)), some(s, someTexts, s.below(1+k%70))
		takesInts(t, PutInts(numbers), numbers)
		put, errno := PutTexts(texts)
		if errno != api.OK {
			t.Fatalf("PutTexts(%q): %d", texts, errno)
		}
		takesTexts(t, put, texts)
	}
}

func TestWhatIsTakenIsPut(t *testing.T) {
	s := stir(4)
	taken := 0
	for range 30000 {
		any := make([]byte, s.below(41))
		for k := range any {
			any[k] = byte(s.below(256))
			if s.below(4) > 0 {
				any[k] = "\x00\x01\x02\x03\x04\x20\x21\x80"[s.below(8)]
			}
		}
		text := string(any)
		for n := range len(text) + 2 {
			if l, errno := TakeInts(text, n); errno == api.OK && PutInts(l) != text {
				t.Fatalf("%x are taken as %x, of which %x are put", text, l, PutInts(l))
			}
			l, errno := TakeTexts(text, n)
			if errno != api.OK {
				continue
			}
			taken++
			if again, refused := PutTexts(l); again != text || refused != api.OK {
				t.Fatalf("%x are taken as %q, of which %x are put, %d", text, l, again, refused)
			}
		}
	}
	if taken < 1000 {
		t.Errorf("%d alone were taken", taken)
	}
}

// Any byte that is changed leads to other numbers, and to other texts or none.
func TestBytesThatAreChangedLeadElsewhere(t *testing.T) {
	texts := []string{"", "a", "\x00\x00", "\x80\xff", xs(32), ""}
	numbers, words := intsOf(someNumbers), textsOf(texts)
	for k := range len(numbers) {
		for _, turn := range []byte{1, 2, 0x40, 0x80, 0xff} {
			changed := numbers[:k] + one(int(numbers[k]^turn)) + numbers[k+1:]
			if l, errno := TakeInts(changed, len(someNumbers)); errno != api.OK || slices.Equal(l, someNumbers) {
				t.Errorf("byte %d turned by %x leads to %x, %d", k, turn, l, errno)
			}
		}
	}
	for k := range len(words) {
		for value := range 256 {
			changed := words[:k] + one(value) + words[k+1:]
			l, errno := TakeTexts(changed, len(texts))
			if changed != words && errno == api.OK && slices.Equal(l, texts) {
				t.Errorf("byte %d as %x leads to the same texts", k, value)
			}
		}
	}
}

// R1 to R4

// What is handed in stays as it is, what lies behind its end is not read, and what is answered is new memory.
func TestRulesOfLists(t *testing.T) {
	numbers, texts := []int{1, 2, 3, 4}, []string{"a", "b", xs(33), "c"}
	putsInts(t, numbers[:2], intsOf([]int{1, 2}))
	putsInts(t, numbers[:0], "")
	putsTexts(t, texts[:2], "\x01a\x01b")
	putsTexts(t, texts[:0], "")
	putsNoTexts(t, texts[:3])
	if !slices.Equal(numbers, []int{1, 2, 3, 4}) || !slices.Equal(texts, []string{"a", "b", xs(33), "c"}) {
		t.Errorf("what was handed in became %v, %q", numbers, texts)
	}
	s, u := intsOf(numbers), "\x01a\x01b\x00"
	first, _ := TakeInts(s, 4)
	second, _ := TakeInts(s, 4)
	clear(first)
	_ = append(first[:1], 7, 8, 9, 10)
	if !slices.Equal(second, numbers) {
		t.Errorf("two answers of TakeInts share memory: %v", second)
	}
	some, _ := TakeTexts(u, 3)
	others, _ := TakeTexts(u, 3)
	clear(some)
	_ = append(some[:1], "x", "y", "z")
	if !slices.Equal(others, []string{"a", "b", ""}) {
		t.Errorf("two answers of TakeTexts share memory: %q", others)
	}
	takesInts(t, s, numbers)
	takesTexts(t, u, others)
}

// Bytes of a text that lies within another one are not read beyond their end.
func TestBytesAreNotReadBeyondTheirEnd(t *testing.T) {
	s := intsOf([]int{1, 2, 3})
	takesInts(t, s[8:16], []int{2})
	takesNoInts(t, s[8:15], 1)
	u := "\x02ab\x01c"
	takesTexts(t, u[:3], []string{"ab"})
	takesTexts(t, u[3:], []string{"c"})
	takesNoTexts(t, u[:2], 1)
	takesNoTexts(t, u[:4], 2)
}

// No call panics, whatever it is given, and the same is answered again; beside an error there is nothing.
func TestAnyArguments(t *testing.T) {
	s := stir(5)
	for range 30000 {
		any := make([]byte, s.below(40))
		for k := range any {
			any[k] = "\x00\x01\x02\x03\x20\x21\x80\xffa"[s.below(9)]
		}
		text, n := string(any), someCounts[s.below(len(someCounts))]
		numbers, noNumbers := TakeInts(text, n)
		texts, noTexts := TakeTexts(text, n)
		if again, errno := TakeInts(text, n); !slices.Equal(again, numbers) || errno != noNumbers {
			t.Fatalf("TakeInts(%x, %d): %v, %d, then %v, %d", text, n, numbers, noNumbers, again, errno)
		}
		if again, errno := TakeTexts(text, n); !slices.Equal(again, texts) || errno != noTexts {
			t.Fatalf("TakeTexts(%x, %d): %q, %d, then %q, %d", text, n, texts, noTexts, again, errno)
		}
		for _, errno := range []api.Errno{noNumbers, noTexts} {
			if errno != api.OK && errno != api.ErrForm {
				t.Fatalf("%x, %d: %d", text, n, errno)
			}
		}
		if noNumbers != api.OK && len(numbers) != 0 || noTexts != api.OK && len(texts) != 0 {
			t.Fatalf("beside an error: %v, %q", numbers, texts)
		}
	}
}
