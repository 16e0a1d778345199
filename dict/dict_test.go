package dict

import (
	"cmp"
	"math"
	"peristyle/api"
	"peristyle/vint"
	"slices"
	"strings"
	"testing"
)

const most = 1 << 16 // values of a list

var (
	someNumbers = []int{0, 1, -1, math.MinInt, math.MaxInt, 5, 7, 63, 64, -64, -65, 1 << 32, math.MinInt + 1, math.MaxInt - 1}
	someTexts   = []string{"", "a", "b", "ab", "aa", "\x00", "\x00\x00", "\xff", "\xff\x00", "\xfe\xff", strings.Repeat("a", 31), strings.Repeat("a", 32), strings.Repeat("\xff", 32), strings.Repeat("\x00", 32), "B", "ä"}
	wrongCounts = []int{-1, -2, -8, -most, -most - 1, most + 1, most + 2, 2 * most, 1 << 31, 1 << 32, 1<<32 + 1, 1<<32 + 3, -1 << 32, 1 << 62, math.MinInt, math.MinInt + 1, math.MinInt + 3, math.MaxInt - 1, math.MaxInt}
	// Bytes that are no number's: with a needless group, with too many bits or bytes, cut off.
	noNumbers = []string{"\x80\x00", "\x82\x00", "\xff\x00", "\x80\x80\x00", strings.Repeat("\xff", 9) + "\x00", strings.Repeat("\xff", 9) + "\x02", strings.Repeat("\xff", 9) + "\x7f", strings.Repeat("\x80", 9) + "\x02", strings.Repeat("\x80", 10) + "\x01", strings.Repeat("\x80", 64), "\x80", "\xff", strings.Repeat("\xff", 9)}
)

// stirrer gives numbers by a fixed rule.
type stirrer struct{ word uint64 }

func stir(seed int) *stirrer { return &stirrer{uint64(seed)*2 + 1} }

func (s *stirrer) below(n int) int {
	s.word = s.word*6364136223846793005 + 1442695040888963407
	return int(s.word >> 33 % uint64(n))
}

// numbers are so many, of a few that stand often or of any.
func (s *stirrer) numbers(count, few int) []int {
	l := make([]int, count)
	for k := range l {
		l[k] = someNumbers[s.below(min(few, len(someNumbers)))]
		if few > len(someNumbers) {
			l[k] = s.below(few) - few/2
		}
	}
	return l
}

// texts are so many, likewise.
func (s *stirrer) texts(count, few int) []string {
	l := make([]string, count)
	for k := range l {
		l[k] = someTexts[s.below(min(few, len(someTexts)))]
		if few > len(someTexts) {
			l[k] = textOf(s.below(few))
		}
	}
	return l
}

// textOf is the text of a number: another one for each.
func textOf(n int) string { return vint.Put(n) + strings.Repeat("x", n%20) }

// The chapter's words.

// isIn tells whether a value stands in a list, one by one.
func isIn[T cmp.Ordered](l []T, value T) bool {
	for _, other := range l {
		if other == value {
			return true
		}
	}
	return false
}

// dictionaryOf has each of some values once, rising: a value that is not there yet is laid in behind all that are less.
func dictionaryOf[T cmp.Ordered](l []T) []T {
	var d []T
	for _, value := range l {
		if isIn(d, value) {
			continue
		}
		less := 0
		for less < len(d) && d[less] < value {
			less++
		}
		d = slices.Insert(d, less, value)
	}
	return d
}

// placesOf are the places of values in a dictionary that has them.
func placesOf[T cmp.Ordered](d, l []T) []int {
	var places []int
	for _, value := range l {
		for at, other := range d {
			if other == value {
				places = append(places, at)
			}
		}
	}
	return places
}

// bitsFor is how many bits a place needs.
func bitsFor(place int) int {
	width := 0
	for ; place > 0; place /= 2 {
		width++
	}
	return width
}

// packed are places as bits, so many each, the lowest first.
func packed(places []int, width int) string {
	s := make([]byte, (len(places)*width+7)/8)
	for k, place := range places {
		for bit := range width {
			if place>>bit%2 == 1 {
				s[(k*width+bit)/8] |= 1 << ((k*width + bit) % 8)
			}
		}
	}
	return string(s)
}

// numbersBytes are a dictionary's numbers as bytes.
func numbersBytes(d []int) string {
	var s strings.Builder
	for _, number := range d {
		s.WriteString(vint.Put(number))
	}
	return s.String()
}

// textsBytes are a dictionary's texts as bytes, each of fewer than 256.
func textsBytes(d []string) string {
	var s strings.Builder
	for _, text := range d {
		s.WriteByte(byte(len(text)))
		s.WriteString(text)
	}
	return s.String()
}

// numberIn is the number that bytes begin with, and how many it has; 0, if they begin with none.
func numberIn(s string) (int, int) {
	number, used, _ := vint.Take(s)
	return number, used
}

// textIn is the text that bytes begin with, likewise.
func textIn(s string) (string, int) {
	if s == "" || s[0] > api.MaxText || len(s) < 1+int(s[0]) {
		return "", 0
	}
	return s[1 : 1+s[0]], 1 + int(s[0])
}

// kind is how values of a kind are put and taken, and how that is meant.
type kind[T cmp.Ordered] struct {
	name  string
	put   func([]T) (string, api.Errno)
	take  func(string, int) ([]T, api.Errno)
	bytes func([]T) string
	first func(string) (T, int)
}

var (
	ints  = kind[int]{"Ints", PutInts, TakeInts, numbersBytes, numberIn}
	texts = kind[string]{"Texts", PutTexts, TakeTexts, textsBytes, textIn}
)

// made are the bytes of a dictionary and of places in it, by so many bits, whether they may be or not.
func (c kind[T]) made(d []T, places []int, width int) string {
	return vint.Put(len(d)) + c.bytes(d) + packed(places, width)
}

// meant are the bytes of values.
func (c kind[T]) meant(l []T) string {
	if len(l) == 0 {
		return ""
	}
	d := dictionaryOf(l)
	return c.made(d, placesOf(d, l), bitsFor(len(d)-1))
}

// valuesIn are the values, so many, whose bytes these are: those that they seem to be, if their bytes are the same; false, if there are none.
func (c kind[T]) valuesIn(s string, n int) ([]T, bool) {
	if n == 0 {
		return nil, s == ""
	}
	count, used := numberIn(s)
	if used == 0 || count < 1 || count > n {
		return nil, false
	}
	rest := s[used:]
	var d []T
	for range count {
		value, used := c.first(rest)
		if used == 0 {
			return nil, false
		}
		d, rest = append(d, value), rest[used:]
	}
	width := bitsFor(count - 1)
	l := make([]T, n)
	for k := range l {
		place := 0
		for bit := k * width; bit < (k+1)*width; bit++ {
			if bit/8 >= len(rest) {
				return nil, false
			}
			place |= int(rest[bit/8]) >> (bit % 8) % 2 << (bit - k*width)
		}
		if place >= count {
			return nil, false
		}
		l[k] = d[place]
	}
	return l, c.meant(l) == s
}

// short is a list as it is told: its beginning alone.
func short[T any](l []T) []T { return l[:min(len(l), 20)] }

// shortBytes are bytes likewise.
func shortBytes(s string) []byte { return short([]byte(s)) }

// has fails if Of answers another dictionary, or other places.
func has[T cmp.Ordered](t *testing.T, l, wantValues []T, wantPlaces []int) {
	t.Helper()
	values, places := Of(l)
	if !slices.Equal(values, wantValues) || !slices.Equal(places, wantPlaces) {
		t.Errorf("Of %d, %v..: %v.., %d.., not %v.., %d..", len(l), short(l), short(values), short(places), short(wantValues), short(wantPlaces))
	}
}

// puts fails if values are not put as those bytes.
func (c kind[T]) puts(t *testing.T, l []T, want string) {
	t.Helper()
	if got, errno := c.put(l); got != want || errno != api.OK {
		t.Errorf("Put%s of %d, %v..: %x.., %d, not %x..", c.name, len(l), short(l), shortBytes(got), errno, shortBytes(want))
	}
}

// putsNone fails if values are not refused by ErrArg, and nothing beside.
func (c kind[T]) putsNone(t *testing.T, l []T) {
	t.Helper()
	if got, errno := c.put(l); got != "" || errno != api.ErrArg {
		t.Errorf("Put%s of %d, %v..: %x.., %d, not ErrArg alone", c.name, len(l), short(l), shortBytes(got), errno)
	}
}

// takes fails if Take answers other values, or, of texts, Places others.
func (c kind[T]) takes(t *testing.T, s string, n int, want []T) {
	t.Helper()
	if got, errno := c.take(s, n); !slices.Equal(got, want) || errno != api.OK {
		t.Errorf("Take%s of %d bytes, %x.., %d: %v.., %d, not %v..", c.name, len(s), shortBytes(s), n, short(got), errno, short(want))
	}
	if l, ok := any(want).([]string); ok {
		values, places, errno := Places(s, n)
		found := make([]string, len(places))
		for k, place := range places {
			found[k] = values[place]
		}
		if !slices.Equal(found, l) || errno != api.OK || len(values) == 0 && n > 0 {
			t.Errorf("Places of %d bytes, %x.., %d: %q.., %d.., %d, not those of %q..", len(s), shortBytes(s), n, short(values), short(places), errno, short(l))
		}
		if len(l) <= 1000 {
			if d := dictionaryOf(l); !slices.Equal(values, d) || !slices.Equal(places, placesOf(d, l)) {
				t.Errorf("Places of %d bytes, %x.., %d: %q.., %d.., not %q..", len(s), shortBytes(s), n, short(values), short(places), short(d))
			}
		}
	}
}

// takesNone fails if Take, and of texts Places, does not answer that error, and nothing beside.
func (c kind[T]) takesNone(t *testing.T, s string, n int, want api.Errno) {
	t.Helper()
	if got, errno := c.take(s, n); len(got) != 0 || errno != want {
		t.Errorf("Take%s of %d bytes, %x.., %d: %v.., %d, not %d alone", c.name, len(s), shortBytes(s), n, short(got), errno, want)
	}
	if _, ok := any(c.take).(func(string, int) ([]string, api.Errno)); ok {
		if values, places, errno := Places(s, n); len(values) != 0 || len(places) != 0 || errno != want {
			t.Errorf("Places of %d bytes, %x.., %d: %q.., %d.., %d, not %d alone", len(s), shortBytes(s), n, short(values), short(places), errno, want)
		}
	}
}

// takesAsMeant fails if values, as many as may be, are taken otherwise than the chapter says, and tells whether there are any.
func (c kind[T]) takesAsMeant(t *testing.T, s string, n int) bool {
	t.Helper()
	l, ok := c.valuesIn(s, n)
	if ok {
		c.takes(t, s, n, l)
	} else {
		c.takesNone(t, s, n, api.ErrForm)
	}
	return ok
}

// goes fails if values have not that dictionary and those places, or are not put as those bytes and taken of them.
func (c kind[T]) goes(t *testing.T, l, d []T, places []int, bytes string) {
	t.Helper()
	has(t, l, d, places)
	c.puts(t, l, bytes)
	c.takes(t, bytes, len(l), l)
	if c.meant(l) != bytes {
		t.Errorf("%v..: not as they were meant", short(l))
	}
}

// goesAsMeant fails if the calls answer otherwise of values than the chapter's words.
func (c kind[T]) goesAsMeant(t *testing.T, l []T) {
	t.Helper()
	d := dictionaryOf(l)
	c.goes(t, l, d, placesOf(d, l), c.meant(l))
}

// Di1

func TestOfNumbers(t *testing.T) {
	for _, c := range []struct{ l, values, places []int }{
		{nil, nil, nil}, {[]int{}, nil, nil},
		{[]int{0}, []int{0}, []int{0}}, {[]int{-1}, []int{-1}, []int{0}}, {[]int{math.MinInt}, []int{math.MinInt}, []int{0}},
		{[]int{5, 5}, []int{5}, []int{0, 0}},
		{[]int{3, 5}, []int{3, 5}, []int{0, 1}}, {[]int{5, 3}, []int{3, 5}, []int{1, 0}},
		{[]int{7, 3, 7, -1}, []int{-1, 3, 7}, []int{2, 1, 2, 0}},
		{[]int{1, 2, 3, 4}, []int{1, 2, 3, 4}, []int{0, 1, 2, 3}}, {[]int{4, 3, 2, 1}, []int{1, 2, 3, 4}, []int{3, 2, 1, 0}},
		{[]int{0, math.MaxInt, -1, math.MinInt, 1, 0}, []int{math.MinInt, -1, 0, 1, math.MaxInt}, []int{2, 4, 1, 0, 3, 2}},
	} {
		has(t, c.l, c.values, c.places)
	}
}

func TestOfTexts(t *testing.T) {
	for _, c := range []struct {
		l, values []string
		places    []int
	}{
		{nil, nil, nil}, {[]string{}, nil, nil},
		{[]string{""}, []string{""}, []int{0}},
		{[]string{"b", "a", "b"}, []string{"a", "b"}, []int{1, 0, 1}}, // the chapter's example
		{[]string{"ab", "a", "", "abc", "b"}, []string{"", "a", "ab", "abc", "b"}, []int{2, 1, 0, 3, 4}},
		{[]string{"\xff", "\x00", "\x7f", "\x80", "", "\x00\x00"}, []string{"", "\x00", "\x00\x00", "\x7f", "\x80", "\xff"}, []int{5, 1, 3, 4, 0, 2}},
		{[]string{"b", "B", "a", "10", "9"}, []string{"10", "9", "B", "a", "b"}, []int{4, 2, 3, 0, 1}},
		{[]string{strings.Repeat("a", 33), strings.Repeat("a", 1000), "b", strings.Repeat("a", 33)}, []string{strings.Repeat("a", 33), strings.Repeat("a", 1000), "b"}, []int{0, 1, 2, 0}}, // Of knows no limit
	} {
		has(t, c.l, c.values, c.places)
	}
}

// Values of other kinds that are ordered, and of kinds made of these.
func TestOfOtherKinds(t *testing.T) {
	type name string
	has(t, []name{"b", "a", "b"}, []name{"a", "b"}, []int{1, 0, 1})
	has(t, []api.Errno{api.ErrForm, api.OK, api.ErrForm}, []api.Errno{api.OK, api.ErrForm}, []int{1, 0, 1})
	has(t, []uint8{255, 0, 128, 255}, []uint8{0, 128, 255}, []int{2, 0, 1, 2})
	has(t, []int8{-128, 127, -1, 0, -1}, []int8{-128, -1, 0, 127}, []int{0, 3, 1, 2, 1})
	has(t, []uint64{math.MaxUint64, 1 << 63, 0, 1<<63 - 1}, []uint64{0, 1<<63 - 1, 1 << 63, math.MaxUint64}, []int{3, 2, 0, 1})
	has(t, []float64{1.5, math.Inf(-1), -0.25, math.Inf(1), 1.5, 0}, []float64{math.Inf(-1), -0.25, 0, 1.5, math.Inf(1)}, []int{3, 0, 1, 4, 3, 2})
	has(t, []float64{0, math.Copysign(0, -1), 1}, []float64{0, 1}, []int{0, 0, 1})
	Of([]float64{math.NaN(), 1, math.NaN(), 0}) // Nothing is promised of those; it ends, and does not panic.
}

// All lists of up to four of some values.
func TestFewValues(t *testing.T) {
	for _, l := range allLists([]int{0, 1, -1, 5, math.MinInt, math.MaxInt}, 4) {
		ints.goesAsMeant(t, l)
	}
	for _, l := range allLists([]string{"", "a", "ab", "b", "\x00", "\xff"}, 4) {
		texts.goesAsMeant(t, l)
	}
}

// allLists are those of up to so many of some values.
func allLists[T any](values []T, longest int) [][]T {
	lists := [][]T{nil}
	for first := 0; first < len(lists) && len(lists[first]) < longest; first++ {
		for _, value := range values {
			lists = append(lists, append(slices.Clone(lists[first]), value))
		}
	}
	return lists
}

func TestManyValues(t *testing.T) {
	s := stir(1)
	for count := range 70 {
		for _, few := range []int{1, 2, 3, 5, 9, len(someNumbers), 20, 64, 1000, 1 << 30} {
			ints.goesAsMeant(t, s.numbers(count, few))
			texts.goesAsMeant(t, s.texts(count, few))
		}
	}
	for _, count := range []int{127, 128, 129, 255, 256, 257, 1000} {
		for _, few := range []int{2, 16, 100, 1 << 30} {
			ints.goesAsMeant(t, s.numbers(count, few))
			texts.goesAsMeant(t, s.texts(count, few))
		}
	}
}

// Lists that are handed to Of stay as they were, also where they fall and have values twice; and Of has no limit.
func TestOfChangesNothing(t *testing.T) {
	s := stir(2)
	for range 200 {
		numbers, words := s.numbers(s.below(50), 9), s.texts(s.below(50), 9)
		kept, keptWords := slices.Clone(numbers), slices.Clone(words)
		Of(numbers)
		Of(words)
		if !slices.Equal(numbers, kept) || !slices.Equal(words, keptWords) {
			t.Fatalf("they became %d, %q", numbers, words)
		}
	}
	long := make([]int, 3*most)
	for k := range long {
		long[k] = -k / 2
	}
	values, places := Of(long)
	if len(values) != len(long)/2 || len(places) != len(long) || !slices.IsSorted(values) {
		t.Fatalf("Of %d numbers: %d, and %d places", len(long), len(values), len(places))
	}
	for k, place := range places {
		if values[place] != long[k] {
			t.Fatalf("Of %d numbers: %d has the place %d, of %d", len(long), long[k], place, values[place])
		}
	}
}

// Di2

func TestNumbersAndTheirBytes(t *testing.T) {
	for _, c := range []struct {
		l, values, places []int
		bytes             string
	}{
		{nil, nil, nil, ""}, {[]int{}, nil, nil, ""},
		{[]int{0}, []int{0}, []int{0}, "\x02\x00"},
		{[]int{1}, []int{1}, []int{0}, "\x02\x02"},
		{[]int{-1}, []int{-1}, []int{0}, "\x02\x01"},
		{[]int{math.MinInt}, []int{math.MinInt}, []int{0}, "\x02\xff\xff\xff\xff\xff\xff\xff\xff\xff\x01"},
		{[]int{math.MaxInt}, []int{math.MaxInt}, []int{0}, "\x02\xfe\xff\xff\xff\xff\xff\xff\xff\xff\x01"},
		{[]int{5, 5}, []int{5}, []int{0, 0}, "\x02\x0a"},
		{[]int{5, 5, 5}, []int{5}, []int{0, 0, 0}, "\x02\x0a"},
		{[]int{5, 7}, []int{5, 7}, []int{0, 1}, "\x04\x0a\x0e\x02"},
		{[]int{7, 5}, []int{5, 7}, []int{1, 0}, "\x04\x0a\x0e\x01"},
		{[]int{7, 5, 7}, []int{5, 7}, []int{1, 0, 1}, "\x04\x0a\x0e\x05"},
		{[]int{7, 3, 7, -1}, []int{-1, 3, 7}, []int{2, 1, 2, 0}, "\x06\x01\x06\x0e\x26"},
		{[]int{3, 2, 1, 0}, []int{0, 1, 2, 3}, []int{3, 2, 1, 0}, "\x08\x00\x02\x04\x06\x1b"},
		{[]int{4, 3, 2, 1, 0}, []int{0, 1, 2, 3, 4}, []int{4, 3, 2, 1, 0}, "\x0a\x00\x02\x04\x06\x08\x9c\x02"},
		{[]int{math.MaxInt, math.MinInt}, []int{math.MinInt, math.MaxInt}, []int{1, 0}, "\x04\xff\xff\xff\xff\xff\xff\xff\xff\xff\x01\xfe\xff\xff\xff\xff\xff\xff\xff\xff\x01\x01"},
		{[]int{0, 1, 1, 1, 1, 1, 1, 1, 1}, []int{0, 1}, []int{0, 1, 1, 1, 1, 1, 1, 1, 1}, "\x04\x00\x02\xfe\x01"},
	} {
		ints.goes(t, c.l, c.values, c.places, c.bytes)
	}
}

func TestTextsAndTheirBytes(t *testing.T) {
	long := strings.Repeat("\xff", 32)
	for _, c := range []struct {
		l, values []string
		places    []int
		bytes     string
	}{
		{nil, nil, nil, ""}, {[]string{}, nil, nil, ""},
		{[]string{"b", "a", "b"}, []string{"a", "b"}, []int{1, 0, 1}, "\x04\x01a\x01b\x05"}, // the chapter's example
		{[]string{""}, []string{""}, []int{0}, "\x02\x00"},
		{[]string{"", ""}, []string{""}, []int{0, 0}, "\x02\x00"},
		{[]string{"a"}, []string{"a"}, []int{0}, "\x02\x01a"},
		{[]string{"\x00"}, []string{"\x00"}, []int{0}, "\x02\x01\x00"},
		{[]string{"\xff", "\x00"}, []string{"\x00", "\xff"}, []int{1, 0}, "\x04\x01\x00\x01\xff\x01"},
		{[]string{"\x00", "\xff"}, []string{"\x00", "\xff"}, []int{0, 1}, "\x04\x01\x00\x01\xff\x02"},
		{[]string{long}, []string{long}, []int{0}, "\x02\x20" + long},
		{[]string{long, ""}, []string{"", long}, []int{1, 0}, "\x04\x00\x20" + long + "\x01"},
		{[]string{"ab", "a", ""}, []string{"", "a", "ab"}, []int{2, 1, 0}, "\x06\x00\x01a\x02ab\x06"},
	} {
		texts.goes(t, c.l, c.values, c.places, c.bytes)
	}
}

func TestPutOfLongTexts(t *testing.T) {
	for _, length := range []int{33, 34, 64, 127, 128, 255, 256, 288, 1 << 16, 1 << 20} {
		long := strings.Repeat("a", length)
		texts.putsNone(t, []string{long})
		texts.putsNone(t, []string{long, long})
		texts.putsNone(t, []string{"", long})
		texts.putsNone(t, []string{long, ""})
		texts.putsNone(t, []string{"a", "b", long, "c"})
		texts.putsNone(t, append(make([]string, most-1), long))
		texts.putsNone(t, append(make([]string, most), long))
	}
	for length := range 33 {
		texts.goesAsMeant(t, []string{"b", strings.Repeat("a", length), "b", strings.Repeat("\xff", length), strings.Repeat("\x00", length)})
	}
}

// So many values as may be, and more, all alike or of few.
func TestMostValues(t *testing.T) {
	for _, count := range []int{most - 1, most} {
		ints.goes(t, slices.Repeat([]int{5}, count), []int{5}, make([]int, count), "\x02\x0a")
		texts.goes(t, slices.Repeat([]string{"a"}, count), []string{"a"}, make([]int, count), "\x02\x01a")
		places := make([]int, count)
		numbers := make([]int, count)
		words := make([]string, count)
		for k := range places {
			places[k] = k % 3
			numbers[k] = []int{-9, 0, 9}[k%3]
			words[k] = []string{"", "a", "ab"}[k%3]
		}
		ints.goes(t, numbers, []int{-9, 0, 9}, places, "\x06\x11\x00\x12"+packed(places, 2))
		texts.goes(t, words, []string{"", "a", "ab"}, places, "\x06\x00\x01a\x02ab"+packed(places, 2))
	}
	for _, count := range []int{most + 1, most + 2, 2 * most, 1 << 20} {
		ints.putsNone(t, make([]int, count))
		texts.putsNone(t, make([]string, count))
		numbers := make([]int, count)
		words := make([]string, count)
		for k := range numbers {
			numbers[k], words[k] = k, textOf(k)
		}
		ints.putsNone(t, numbers)
		texts.putsNone(t, words)
	}
}

// Dictionaries of so many values, whose greatest place needs so many bits: as many values as the dictionary has, and more of them.
func TestWidths(t *testing.T) {
	for _, c := range []struct{ count, width int }{{1, 0}, {2, 1}, {3, 2}, {4, 2}, {5, 3}, {8, 3}, {9, 4}, {16, 4}, {17, 5}, {64, 6}, {65, 7}, {256, 8}, {257, 9}, {4096, 12}, {1 << 15, 15}, {1<<15 + 1, 16}, {most - 1, 16}, {most, 16}} {
		numbers := make([]int, c.count)
		for k := range numbers {
			numbers[k] = k - c.count/2
		}
		words := make([]string, c.count)
		for k := range words {
			words[k] = strings.Repeat("\x00", k%2) + string([]byte{byte(k >> 8), byte(k)})
		}
		slices.Sort(words)
		for _, more := range []int{0, 1, 7} {
			places := make([]int, 0, c.count+more)
			for k := range c.count {
				places = append(places, c.count-1-k)
			}
			for k := range more {
				places = append(places, k%c.count)
			}
			if len(places) > most {
				continue
			}
			widths(t, ints, numbers, places, c.width)
			widths(t, texts, words, places, c.width)
		}
	}
}

func widths[T cmp.Ordered](t *testing.T, c kind[T], d []T, places []int, width int) {
	t.Helper()
	l := make([]T, len(places))
	for k, place := range places {
		l[k] = d[place]
	}
	bytes := c.made(d, places, width)
	has(t, l, d, places)
	c.puts(t, l, bytes)
	c.takes(t, bytes, len(l), l)
	for _, wrong := range []int{width - 1, width + 1, 8, 16, 17, 64} {
		// The same places by other bits: fewer take something off, and more are too many.
		if s := c.made(d, places, max(wrong, 0)); s != bytes {
			c.takesNone(t, s, len(l), api.ErrForm)
		}
	}
}

// ErrArg comes ahead of ErrForm: some of the bytes here are of no values besides.
func TestTakeOfWrongCounts(t *testing.T) {
	for _, n := range wrongCounts {
		for _, s := range []string{"", "\x00", "\x01", "\x02\x0a", "\x02\x00", "\x80", "\xff", "\x04\x01a\x01b\x05", "\x04\x0a\x0e\x05", vint.Put(n), vint.Put(n) + "\x00", strings.Repeat("\x00", 64)} {
			ints.takesNone(t, s, n, api.ErrArg)
			texts.takesNone(t, s, n, api.ErrArg)
		}
	}
}

func TestTakeOfFewBytes(t *testing.T) {
	ints.takes(t, "", 0, nil)
	texts.takes(t, "", 0, nil)
	for _, n := range []int{1, 2, 3, 64, most - 1, most} {
		ints.takesNone(t, "", n, api.ErrForm)
		texts.takesNone(t, "", n, api.ErrForm)
		ints.takes(t, "\x02\x0a", n, slices.Repeat([]int{5}, n))
		texts.takes(t, "\x02\x01a", n, slices.Repeat([]string{"a"}, n))
		texts.takes(t, "\x02\x00", n, make([]string, n))
	}
	for k := range 256 {
		s := string([]byte{byte(k)})
		for _, s := range []string{s, s + "\x00", "\x00" + s, "\x02" + s, "\x04" + s + "\x0a"} {
			ints.takesNone(t, s, 0, api.ErrForm)
			texts.takesNone(t, s, 0, api.ErrForm)
		}
		for n := 1; n < 10; n++ {
			ints.takesNone(t, s, n, api.ErrForm)
			texts.takesNone(t, s, n, api.ErrForm)
		}
	}
	for _, s := range []string{"\x02\x0a", "\x04\x0a\x0e\x05", "\x04\x01a\x01b\x05", strings.Repeat("\x00", 64)} {
		ints.takesNone(t, s, 0, api.ErrForm)
		texts.takesNone(t, s, 0, api.ErrForm)
	}
}

// Bytes of more and of fewer values than are asked for. Where as many places need as many bytes, and the bits behind are 0, they are of as many values, the last ones at the place 0.
func TestTakeOfAnotherCount(t *testing.T) {
	bytes, l := "\x04\x01a\x01b\x05", []string{"b", "a", "b", "a", "a", "a", "a", "a"}
	for n := range 20 {
		if n >= 3 && n <= 8 {
			texts.takes(t, bytes, n, l[:n])
		} else {
			texts.takesNone(t, bytes, n, api.ErrForm)
		}
	}
	s := stir(3)
	for count := range 30 {
		for _, few := range []int{1, 2, 3, 4, 5, 14, 30} {
			otherCount(t, ints, s.numbers(count, few))
			otherCount(t, texts, s.texts(count, few))
		}
	}
	for _, n := range []int{1, 2, most / 2, most - 8, most - 7} {
		ints.takesNone(t, ints.made([]int{5, 7}, slices.Repeat([]int{0, 1}, most/2), 1), n, api.ErrForm)
		texts.takesNone(t, texts.made([]string{"a", "b"}, slices.Repeat([]int{0, 1}, most/2), 1), n, api.ErrForm)
	}
}

func otherCount[T cmp.Ordered](t *testing.T, c kind[T], l []T) {
	t.Helper()
	bytes := c.meant(l)
	for n := range len(l) + 20 {
		c.takesAsMeant(t, bytes, n)
	}
	// Fewer values than the dictionary has, and as many as would need another byte, are none.
	for n := range len(dictionaryOf(l)) {
		c.takesNone(t, bytes, n, api.ErrForm)
	}
	if len(dictionaryOf(l)) > 1 {
		c.takesNone(t, bytes, len(l)+8, api.ErrForm)
	}
}

func TestTakeOfBytesThatAreCutOff(t *testing.T) {
	s := stir(4)
	for count := 1; count < 25; count++ {
		for _, few := range []int{1, 2, 3, 5, 14, 100} {
			cutOff(t, ints, s.numbers(count, few))
			cutOff(t, texts, s.texts(count, few))
		}
	}
}

func cutOff[T cmp.Ordered](t *testing.T, c kind[T], l []T) {
	t.Helper()
	bytes := c.meant(l)
	c.takes(t, bytes, len(l), l)
	for k := range len(bytes) {
		c.takesNone(t, bytes[:k], len(l), api.ErrForm)
		c.takesAsMeant(t, bytes[k+1:], len(l))
		c.takesAsMeant(t, bytes[:k]+bytes[k+1:], len(l))
	}
	for _, behind := range []string{"\x00", "\x01", "\x02", "\x80", "\xff", "\x00\x00", "\x02\x00", "\x0a\x05", strings.Repeat("\x00", 64), bytes} {
		c.takesNone(t, bytes+behind, len(l), api.ErrForm)
	}
}

// How many values the dictionary has: no number of layer 2, and numbers that no dictionary of so many values has.
func TestTakeOfWrongFirstNumbers(t *testing.T) {
	for _, behind := range []string{"", "\x00", "\x0a", "\x0a\x0e", "\x0a\x0e\x01", "\x01a\x01b\x01", strings.Repeat("\x00", 20), strings.Repeat("\x0a", 20)} {
		for _, n := range []int{1, 2, 3, 9, most} {
			for _, number := range noNumbers {
				// Behind bytes that are cut off others might end the number.
				if number[len(number)-1] < 0x80 {
					ints.takesNone(t, number+behind, n, api.ErrForm)
					texts.takesNone(t, number+behind, n, api.ErrForm)
				} else {
					ints.takesAsMeant(t, number+behind, min(n, 9))
					texts.takesAsMeant(t, number+behind, min(n, 9))
				}
			}
			for _, count := range []int{0, -1, -2, -n, n + 1, n + 2, 2*n + 1, most + 1, most + 2, -most, 1 << 32, 1<<32 + 1, 1<<32 + 2, -1 << 32, 1<<62 + 1, math.MinInt, math.MinInt + 1, math.MinInt + 2, math.MaxInt - 1, math.MaxInt} {
				ints.takesNone(t, vint.Put(count)+behind, n, api.ErrForm)
				texts.takesNone(t, vint.Put(count)+behind, n, api.ErrForm)
			}
		}
	}
	// A dictionary of one more than the values, that is right besides.
	for n := 1; n < 40; n++ {
		d, words := make([]int, n+1), make([]string, n+1)
		places := make([]int, n)
		for k := range d {
			d[k], words[k] = k, strings.Repeat("a", k%33)+strings.Repeat("b", k/33)
		}
		for k := range places {
			places[k] = k
		}
		slices.Sort(words)
		ints.takesNone(t, ints.made(d, places, bitsFor(n)), n, api.ErrForm)
		texts.takesNone(t, texts.made(words, places, bitsFor(n)), n, api.ErrForm)
		ints.takes(t, ints.made(d[:n], places, bitsFor(n-1)), n, d[:n])
		texts.takes(t, texts.made(words[:n], places, bitsFor(n-1)), n, words[:n])
	}
}

// Another count of values than the dictionary has.
func TestTakeOfAnotherFirstNumber(t *testing.T) {
	s := stir(5)
	for count := 1; count < 20; count++ {
		for _, few := range []int{1, 2, 3, 5, 14} {
			otherFirst(t, ints, s.numbers(count, few))
			otherFirst(t, texts, s.texts(count, few))
		}
	}
}

func otherFirst[T cmp.Ordered](t *testing.T, c kind[T], l []T) {
	t.Helper()
	_, used := numberIn(c.meant(l))
	rest := c.meant(l)[used:]
	for count := -3; count < 25; count++ {
		c.takesAsMeant(t, vint.Put(count)+rest, len(l))
	}
}

// A number of the dictionary that is none of layer 2, at each place.
func TestTakeOfWrongNumbersInTheDictionary(t *testing.T) {
	for _, number := range noNumbers {
		for n := 1; n < 10; n++ {
			ints.takesNone(t, "\x02"+number, n, api.ErrForm)
		}
		for n := 2; n < 10; n++ {
			for _, s := range []string{"\x04" + number + "\x0e\x02", "\x04\x0a" + number + "\x02", "\x04" + number + number + "\x02"} {
				if number[len(number)-1] < 0x80 {
					ints.takesNone(t, s, n, api.ErrForm)
				} else {
					ints.takesAsMeant(t, s, n)
				}
			}
		}
	}
	ints.takes(t, "\x04\x0a\x80\x01\x02", 2, []int{5, 64})
	ints.takesNone(t, "\x04\x0a\x80\x00\x02", 2, api.ErrForm)
	ints.takesNone(t, "\x04\x8a\x00\x0e\x02", 2, api.ErrForm)
	ints.takesNone(t, "\x04\x0a\x8e\x00\x02", 2, api.ErrForm)
}

// A text of the dictionary that is none of layer 7: it is longer than it may be, or than the bytes are.
func TestTakeOfWrongTextsInTheDictionary(t *testing.T) {
	for _, length := range []int{33, 34, 64, 127, 128, 254, 255} {
		long := string([]byte{byte(length)}) + strings.Repeat("b", length)
		for n := 1; n < 10; n++ {
			texts.takesNone(t, "\x02"+long, n, api.ErrForm)
		}
		for n := 2; n < 10; n++ {
			texts.takesNone(t, "\x04\x01a"+long+"\x02", n, api.ErrForm)
			texts.takesNone(t, "\x04"+long+"\x01c\x02", n, api.ErrForm)
		}
	}
	for _, s := range []string{"\x02\x01", "\x02\x02a", "\x02\x00a", "\x02\x01ab", "\x02\x20" + strings.Repeat("a", 31), "\x02\x20" + strings.Repeat("a", 33)} {
		for n := 1; n < 10; n++ {
			texts.takesNone(t, s, n, api.ErrForm)
		}
	}
	// The second text reaches into the places, or ends ahead of them.
	texts.takes(t, "\x04\x01a\x02bb\x02", 2, []string{"a", "bb"})
	texts.takesNone(t, "\x04\x01a\x03bb\x02", 2, api.ErrForm)
	texts.takesNone(t, "\x04\x01a\x01bb\x02", 2, api.ErrForm)
	texts.takesNone(t, "\x04\x01a\x03bb\x02", 9, api.ErrForm)
}

// A dictionary that falls, and one that has a value twice, at each place of it.
func TestTakeOfDictionariesThatDoNotRise(t *testing.T) {
	ints.takesNone(t, "\x04\x0a\x0a\x01", 2, api.ErrForm)
	ints.takesNone(t, "\x04\x0e\x0a\x01", 2, api.ErrForm)
	texts.takesNone(t, "\x04\x01a\x01a\x01", 2, api.ErrForm)
	texts.takesNone(t, "\x04\x01b\x01a\x01", 2, api.ErrForm)
	texts.takesNone(t, "\x04\x01a\x00\x01", 2, api.ErrForm)
	texts.takesNone(t, "\x04\x02ab\x01a\x01", 2, api.ErrForm)
	texts.takesNone(t, "\x04\x01\xff\x01\x00\x01", 2, api.ErrForm)
	numbers := []int{math.MinInt, -65, -1, 0, 1, 64, 1 << 40, math.MaxInt}
	words := []string{"", "\x00", "\x00\x00", "a", "aa", "b", "\xff", strings.Repeat("\xff", 32)}
	for count := 2; count <= len(numbers); count++ {
		doNotRise(t, ints, numbers[:count])
		doNotRise(t, texts, words[:count])
	}
}

func doNotRise[T cmp.Ordered](t *testing.T, c kind[T], d []T) {
	t.Helper()
	places := make([]int, len(d)+3)
	for k := range places {
		places[k] = k % len(d)
	}
	width := bitsFor(len(d) - 1)
	if s := c.made(d, places, width); !c.takesAsMeant(t, s, len(places)) {
		t.Errorf("%x was not meant to be wrong", s)
	}
	for k := range d {
		for other := range d {
			if other == k {
				continue
			}
			swapped, twice := slices.Clone(d), slices.Clone(d)
			swapped[k], swapped[other] = d[other], d[k]
			twice[k] = d[other]
			c.takesNone(t, c.made(swapped, places, width), len(places), api.ErrForm)
			c.takesNone(t, c.made(twice, places, width), len(places), api.ErrForm)
		}
	}
}

// A place that the dictionary has not, and a value of it that no place leads to.
func TestTakeOfWrongPlaces(t *testing.T) {
	ints.takesNone(t, "\x06\x0a\x0c\x0e\x0f", 2, api.ErrForm)
	ints.takesNone(t, "\x06\x0a\x0c\x0e\x34", 3, api.ErrForm) // 0, 1, 3
	ints.takes(t, "\x06\x0a\x0c\x0e\x24", 3, []int{5, 6, 7})
	ints.takesNone(t, "\x04\x0a\x0e\x00", 2, api.ErrForm)
	ints.takesNone(t, "\x04\x0a\x0e\x03", 2, api.ErrForm)
	texts.takesNone(t, "\x04\x01a\x01b\x00", 2, api.ErrForm)
	texts.takesNone(t, "\x04\x01a\x01b\x03", 2, api.ErrForm)
	for count := 1; count < 12; count++ {
		numbers, words := make([]int, count), make([]string, count)
		for k := range numbers {
			numbers[k], words[k] = 3*k-9, strings.Repeat("a", k)
		}
		for _, more := range []int{0, 1, 5} {
			wrongPlaces(t, ints, numbers, count+more)
			wrongPlaces(t, texts, words, count+more)
		}
	}
}

func wrongPlaces[T cmp.Ordered](t *testing.T, c kind[T], d []T, n int) {
	t.Helper()
	width := bitsFor(len(d) - 1)
	places := make([]int, n)
	for k := range places {
		places[k] = k % len(d)
	}
	c.takesAsMeant(t, c.made(d, places, width), n)
	for k := range places {
		for beyond := len(d); beyond < 1<<width; beyond++ {
			wrong := slices.Clone(places)
			wrong[k] = beyond
			c.takesNone(t, c.made(d, wrong, width), n, api.ErrForm)
		}
	}
	for left := range d {
		if len(d) == 1 {
			continue
		}
		for instead := range d {
			wrong := slices.Clone(places)
			for k := range wrong {
				if wrong[k] == left && instead != left {
					wrong[k] = instead
				}
			}
			if instead != left {
				c.takesNone(t, c.made(d, wrong, width), n, api.ErrForm)
			}
		}
	}
}

// Each bit that fills the last byte is set, in turn.
func TestTakeOfFillingBits(t *testing.T) {
	for n := 2; n < 30; n++ {
		for count := 2; count <= min(n, 9); count++ {
			d, words, places := make([]int, count), make([]string, count), make([]int, n)
			for k := range d {
				d[k], words[k] = k*k, strings.Repeat("b", k)
			}
			for k := range places {
				places[k] = k % count
			}
			fillingBits(t, ints, d, places)
			fillingBits(t, texts, words, places)
		}
	}
}

func fillingBits[T cmp.Ordered](t *testing.T, c kind[T], d []T, places []int) {
	t.Helper()
	width := bitsFor(len(d) - 1)
	bytes := []byte(c.made(d, places, width))
	used := len(places) * width % 8
	if used == 0 {
		return
	}
	for bit := used; bit < 8; bit++ {
		bytes[len(bytes)-1] ^= 1 << bit
		c.takesNone(t, string(bytes), len(places), api.ErrForm)
		bytes[len(bytes)-1] ^= 1 << bit
	}
	c.takesAsMeant(t, string(bytes), len(places))
}

// Places by more bits than the greatest one needs, and by fewer.
func TestTakeOfOtherWidths(t *testing.T) {
	ints.takesNone(t, "\x02\x0a\x00", 1, api.ErrForm)
	ints.takesNone(t, "\x02\x0a\x00", 8, api.ErrForm)
	texts.takesNone(t, "\x02\x01a\x00", 3, api.ErrForm)
	s := stir(6)
	for count := 1; count < 40; count++ {
		for _, few := range []int{1, 2, 3, 4, 5, 9, 14} {
			otherWidths(t, ints, s.numbers(count, few))
			otherWidths(t, texts, s.texts(count, few))
		}
	}
}

func otherWidths[T cmp.Ordered](t *testing.T, c kind[T], l []T) {
	t.Helper()
	d := dictionaryOf(l)
	own := bitsFor(len(d) - 1)
	for width := range 20 {
		s := c.made(d, placesOf(d, l), width)
		if width == own {
			c.takes(t, s, len(l), l)
			continue
		}
		c.takesAsMeant(t, s, len(l))
		if (len(l)*width+7)/8 != (len(l)*own+7)/8 {
			c.takesNone(t, s, len(l), api.ErrForm)
		}
	}
}

// Any short bytes, with each small count.
func TestTakeOfAnyBytes(t *testing.T) {
	anyBytes(t, ints, "\x00\x01\x02\x03\x04\x06\x08\x80\xff", 400)
	anyBytes(t, texts, "\x00\x01\x02\x03\x04\x06\x08a\xff", 400)
}

func anyBytes[T cmp.Ordered](t *testing.T, c kind[T], letters string, least int) {
	t.Helper()
	all := []string{""}
	for first := 0; first < len(all) && len(all[first]) < 5; first++ {
		for k := range len(letters) {
			all = append(all, all[first]+letters[k:k+1])
		}
	}
	taken := 0
	for _, bytes := range all {
		for n := range 7 {
			if c.takesAsMeant(t, bytes, n) {
				taken++
			}
		}
		if t.Failed() {
			t.FailNow()
		}
	}
	if taken < least {
		t.Errorf("%s: %d alone were taken", c.name, taken)
	}
}

// The bytes of values, of which one is another byte.
func TestTakeOfChangedBytes(t *testing.T) {
	s := stir(7)
	for range 150 {
		changedBytes(t, ints, s.numbers(1+s.below(20), 1+s.below(30)))
		changedBytes(t, texts, s.texts(1+s.below(20), 1+s.below(8)))
	}
}

func changedBytes[T cmp.Ordered](t *testing.T, c kind[T], l []T) {
	t.Helper()
	bytes := []byte(c.meant(l))
	for at, b := range bytes {
		for bit := range 8 {
			for _, changed := range []byte{b ^ 1<<bit, b + 1<<bit, b - 1<<bit} {
				bytes[at] = changed
				c.takesAsMeant(t, string(bytes), len(l))
			}
		}
		bytes[at] = b
	}
}

// Long bytes, that are of no values.
func TestTakeOfLongBytes(t *testing.T) {
	for _, n := range []int{0, 1, 2, most - 1, most} {
		for _, letter := range []string{"\x00", "\x02", "\x80", "\xff", "\x01a"} {
			for _, ahead := range []string{"", "\x02", "\x04", vint.Put(n), vint.Put(most)} {
				ints.takesNone(t, ahead+strings.Repeat(letter, 1<<22), n, api.ErrForm)
				texts.takesNone(t, ahead+strings.Repeat(letter, 1<<22), n, api.ErrForm)
			}
		}
	}
}

// Di3

// What is put is taken as it was, and texts stand to one another as their places do.
func TestWhatIsPutIsTaken(t *testing.T) {
	s := stir(8)
	for k := range 3000 {
		count, few := s.below(70), 1+s.below(40)
		if k == 0 {
			count, few = most, 1<<30
		}
		numbers, words := s.numbers(count, few), s.texts(count, few)
		put, errno := PutInts(numbers)
		if back, taken := TakeInts(put, count); errno != api.OK || taken != api.OK || !slices.Equal(back, numbers) {
			t.Fatalf("%d.. put: %d, taken: %d.., %d", short(numbers), errno, short(back), taken)
		}
		put, errno = PutTexts(words)
		if back, taken := TakeTexts(put, count); errno != api.OK || taken != api.OK || !slices.Equal(back, words) {
			t.Fatalf("%q.. put: %d, taken: %q.., %d", short(words), errno, short(back), taken)
		}
		values, places, errno := Places(put, count)
		if errno != api.OK || len(places) != count {
			t.Fatalf("Places of %q..: %q.., %d.., %d", short(words), short(values), short(places), errno)
		}
		for a := range min(count, 40) {
			for b := range min(count, 40) {
				if cmp.Compare(words[a], words[b]) != cmp.Compare(places[a], places[b]) {
					t.Fatalf("%q and %q are at %d and %d", words[a], words[b], places[a], places[b])
				}
			}
		}
	}
}

func TestWhatIsTakenIsPut(t *testing.T) {
	s := stir(9)
	taken := 0
	for range 400000 {
		bytes := make([]byte, 1+s.below(6))
		for k := range bytes {
			bytes[k] = byte(s.below(1 << (1 + s.below(8))))
		}
		bytes[0] = byte(2 * (1 + s.below(3)))
		n := s.below(9)
		if l, errno := TakeInts(string(bytes), n); errno == api.OK {
			taken++
			ints.puts(t, l, string(bytes))
		}
		if l, errno := TakeTexts(string(bytes), n); errno == api.OK {
			taken++
			texts.puts(t, l, string(bytes))
		}
	}
	if taken < 1000 {
		t.Errorf("%d alone were taken", taken)
	}
}

// R1 to R4

// What is handed in stays as it is, and what lies behind its end is neither read nor changed.
func TestRulesOfArguments(t *testing.T) {
	numbers, words := []int{7, 5, 7, 1, 9}, []string{"b", "a", "b", "", strings.Repeat("c", 33)}
	ints.goes(t, numbers[:3], []int{5, 7}, []int{1, 0, 1}, "\x04\x0a\x0e\x05")
	ints.goes(t, numbers[:1], []int{7}, []int{0}, "\x02\x0e")
	ints.goes(t, numbers[:0], nil, nil, "")
	ints.goes(t, numbers[1:3], []int{5, 7}, []int{0, 1}, "\x04\x0a\x0e\x02")
	texts.goes(t, words[:3], []string{"a", "b"}, []int{1, 0, 1}, "\x04\x01a\x01b\x05")
	texts.goes(t, words[:0], nil, nil, "")
	texts.putsNone(t, words)
	if !slices.Equal(numbers, []int{7, 5, 7, 1, 9}) || !slices.Equal(words, []string{"b", "a", "b", "", strings.Repeat("c", 33)}) {
		t.Errorf("they became %d, %q", numbers, words)
	}
	long := "\xff\x04\x01a\x01b\x05\x00"
	texts.takes(t, long[1:7], 3, words[:3])
	texts.takesNone(t, long[1:], 3, api.ErrForm)
	texts.takesNone(t, long[1:6], 3, api.ErrForm)
	texts.takesNone(t, long[1:6], 9, api.ErrForm)
}

// What is answered is new memory: it shares none with an argument, nor one list of it with another.
func TestRulesOfAnswers(t *testing.T) {
	numbers, words := []int{1, 2, 3}, []string{"a", "b", "c"}
	numbersBytes, wordsBytes := ints.meant(numbers), texts.meant(words)
	values, places := Of(numbers)
	texted, _ := Of(words)
	taken, _ := TakeInts(numbersBytes, 3)
	takenTexts, _ := TakeTexts(wordsBytes, 3)
	d, at, _ := Places(wordsBytes, 3)
	again, atAgain, _ := Places(wordsBytes, 3)
	for k := range 3 {
		values[k], taken[k] = 100, 100
		texted[k], takenTexts[k], d[k] = "x", "x", "x"
	}
	_ = append(values[:1], 50, 50, 50)
	_ = append(texted[:1], "y", "y", "y")
	if !slices.Equal(numbers, []int{1, 2, 3}) || !slices.Equal(words, []string{"a", "b", "c"}) {
		t.Errorf("what was handed in became %d, %q", numbers, words)
	}
	if !slices.Equal(places, []int{0, 1, 2}) || !slices.Equal(at, []int{0, 1, 2}) {
		t.Errorf("the places became %d, %d", places, at)
	}
	clear(at)
	if !slices.Equal(again, words) || !slices.Equal(atAgain, []int{0, 1, 2}) {
		t.Errorf("another answer became %q, %d", again, atAgain)
	}
	ints.goesAsMeant(t, numbers)
	texts.goesAsMeant(t, words)
}

// No call panics, whatever it is given, and the same is answered again; beside an error there is nothing.
func TestAnyArguments(t *testing.T) {
	s := stir(10)
	counts := slices.Concat(wrongCounts, []int{0, 0, 1, 1, 1, 2, 2, 2, 3, 3, 4, 5, 8, 9, 16})
	for range 100000 {
		bytes := make([]byte, s.below(14))
		for k := range bytes {
			bytes[k] = byte(s.below(1 << (1 + s.below(8))))
		}
		n := counts[s.below(len(counts))]
		for range 2 {
			if n < 0 || n > most {
				ints.takesNone(t, string(bytes), n, api.ErrArg)
				texts.takesNone(t, string(bytes), n, api.ErrArg)
			} else {
				ints.takesAsMeant(t, string(bytes), n)
				texts.takesAsMeant(t, string(bytes), n)
			}
		}
		if t.Failed() {
			t.FailNow()
		}
	}
}
