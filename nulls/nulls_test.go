package nulls

import (
	"math"
	"peristyle/api"
	"slices"
	"strings"
	"testing"
)

const most = 1 << 16 // cells that a mask tells of

var (
	someCells = []api.Cell{number(0), number(5), number(-1), text(""), text("a"), number(math.MinInt), number(math.MaxInt), text("null"), text("\x00"), text(strings.Repeat("x", 32)),
		// Cells that may not be are none of layer 12's business: their Kind alone is asked.
		text(strings.Repeat("x", 33)), {Kind: 3}, {Kind: 3, N: 1, S: "a"}, {Kind: -1}, {Kind: 256}, {Kind: math.MinInt}, {Kind: math.MaxInt, S: "b"}, {Kind: api.Int, N: 5, S: "a"}, {Kind: api.Text, N: 5, S: "a"}, {Kind: api.Int, S: "a"}, {Kind: api.Text, N: 1}}
	someNulls   = []api.Cell{{}, {N: 1}, {S: "a"}, {N: -1, S: "null"}, {N: math.MinInt}, {S: strings.Repeat("x", 33)}}
	wrongCounts = []int{-1, -2, -8, -most, -most - 1, most + 1, most + 2, 2 * most, 1 << 31, 1 << 32, 1<<32 + 1, 1<<32 + 9, -1 << 32, 1 << 62, math.MinInt, math.MinInt + 1, math.MinInt + 9, math.MaxInt - 1, math.MaxInt}
	someCounts  = []int{1, 2, 3, 7, 8, 9, 15, 16, 17, 63, 64, 65, 1000, most - 1, most}
)

func number(n int) api.Cell { return api.Cell{Kind: api.Int, N: n} }

func text(s string) api.Cell { return api.Cell{Kind: api.Text, S: s} }

// stirrer gives numbers by a fixed rule.
type stirrer struct{ word uint64 }

func stir(seed int) *stirrer { return &stirrer{uint64(seed)*2 + 1} }

func (s *stirrer) below(n int) int {
	s.word = s.word*6364136223846793005 + 1442695040888963407
	return int(s.word >> 33 % uint64(n))
}

// cells are so many, of which one of so many is a null.
func (s *stirrer) cells(count, oneOf int) []api.Cell {
	l := make([]api.Cell, count)
	for k := range l {
		l[k] = someCells[s.below(len(someCells))]
		if s.below(oneOf) == 0 {
			l[k] = api.Cell{}
		}
	}
	return l
}

// others are so many cells that are no nulls, each another one than those around it.
func others(count int) []api.Cell {
	l := make([]api.Cell, count)
	for k := range l {
		l[k] = number(k)
		if k%3 == 2 {
			l[k] = text(strings.Repeat("y", k%32))
		}
	}
	return l
}

// withNulls are so many cells that are nulls at some places, and others elsewhere.
func withNulls(count int, places ...int) []api.Cell {
	l := others(count)
	for _, place := range places {
		l[place] = api.Cell{}
	}
	return l
}

// The chapter's words.

// maskOf are the bytes that tell which of at most 2^16 cells are nulls: a bit each, the lowest first.
func maskOf(l []api.Cell) string {
	s := make([]byte, (len(l)+7)/8)
	nulls := 0
	for k, c := range l {
		if c.Kind == api.Null {
			nulls++
			s[k/8] += 1 << (k % 8)
		}
	}
	if nulls == 0 {
		return ""
	}
	return string(s)
}

// nullsIn are which of so many cells bytes tell to be nulls; false, if they are no mask of so many.
func nullsIn(s string, n int) ([]bool, bool) {
	if s == "" {
		return make([]bool, n), true
	}
	told := make([]bool, len(s)*8)
	for k := range told {
		told[k] = s[k/8]>>(k%8)%2 == 1
	}
	if len(s) != (n+7)/8 || slices.Contains(told[n:], true) || !slices.Contains(told, true) {
		return nil, false
	}
	return told[:n], true
}

// split are the cells of some that are no nulls, and how many are.
func split(l []api.Cell) ([]api.Cell, int) {
	var kept []api.Cell
	for _, c := range l {
		if c.Kind != api.Null {
			kept = append(kept, c)
		}
	}
	return kept, len(l) - len(kept)
}

// joined are cells that are nulls where that is told, and those of a list elsewhere; false, if there are none such.
func joined(told []bool, l []api.Cell) ([]api.Cell, bool) {
	var made []api.Cell
	for _, null := range told {
		if null {
			made = append(made, api.Cell{})
			continue
		}
		if len(l) == 0 || l[0].Kind == api.Null {
			return nil, false
		}
		made, l = append(made, l[0]), l[1:]
	}
	return made, len(l) == 0
}

// short is a list as it is told: its beginning alone.
func short[T any](l []T) []T { return l[:min(len(l), 20)] }

// shortBytes are bytes likewise.
func shortBytes(s string) []byte { return short([]byte(s)) }

// splits fails if cells are not split into that mask and those others.
func splits(t *testing.T, l []api.Cell, wantMask string, want []api.Cell) {
	t.Helper()
	if mask, got := Split(l); mask != wantMask || !slices.Equal(got, want) {
		t.Errorf("Split of %d, %v..: %x.., %d cells, %v.., not %x.., %d, %v..", len(l), short(l), shortBytes(mask), len(got), short(got), shortBytes(wantMask), len(want), short(want))
	}
}

// counts fails if Count does not answer that.
func counts(t *testing.T, s string, n, want int, wantErrno api.Errno) {
	t.Helper()
	if got, errno := Count(s, n); got != want || errno != wantErrno {
		t.Errorf("Count of %d bytes, %x.., %d: %d, %d, not %d, %d", len(s), shortBytes(s), n, got, errno, want, wantErrno)
	}
}

// joins fails if Join answers other cells.
func joins(t *testing.T, s string, n int, l, want []api.Cell) {
	t.Helper()
	if got, errno := Join(s, n, l); !slices.Equal(got, want) || errno != api.OK {
		t.Errorf("Join of %d bytes, %x.., %d, and %d cells, %v..: %d, %v.., %d, not %d, %v..", len(s), shortBytes(s), n, len(l), short(l), len(got), short(got), errno, len(want), short(want))
	}
}

// joinsNone fails if Join does not answer that error, and nothing beside.
func joinsNone(t *testing.T, s string, n int, l []api.Cell, want api.Errno) {
	t.Helper()
	if got, errno := Join(s, n, l); len(got) != 0 || errno != want {
		t.Errorf("Join of %d bytes, %x.., %d, and %d cells, %v..: %d, %v.., %d, not %d alone", len(s), shortBytes(s), n, len(l), short(l), len(got), short(got), errno, want)
	}
}

// noMask fails if Count and Join, of whichever cells, do not refuse bytes by ErrForm.
func noMask(t *testing.T, s string, n int) {
	t.Helper()
	counts(t, s, n, 0, api.ErrForm)
	for _, l := range [][]api.Cell{nil, others(n), others(max(n-1, 0)), {{}}, others(n + 1)} {
		joinsNone(t, s, n, l, api.ErrForm)
	}
}

// asMeant fails if the calls answer otherwise of bytes, and so many cells as may be, than the chapter's words; it tells whether they are a mask.
func asMeant(t *testing.T, s string, n int) bool {
	t.Helper()
	told, ok := nullsIn(s, n)
	if !ok {
		noMask(t, s, n)
		return false
	}
	nulls := 0
	for _, null := range told {
		if null {
			nulls++
		}
	}
	counts(t, s, n, nulls, api.OK)
	l := others(n - nulls)
	want, _ := joined(told, l)
	joins(t, s, n, l, want)
	joinsNone(t, s, n, others(len(l)+1), api.ErrForm)
	if len(l) > 0 {
		joinsNone(t, s, n, l[1:], api.ErrForm)
	}
	return true
}

// goes fails if at most 2^16 cells, whose nulls are empty, are not split as it is meant, counted, and joined again.
func goes(t *testing.T, l []api.Cell) {
	t.Helper()
	mask := maskOf(l)
	kept, nulls := split(l)
	splits(t, l, mask, kept)
	counts(t, mask, len(l), nulls, api.OK)
	joins(t, mask, len(l), kept, l)
}

// Nu1

func TestMasks(t *testing.T) {
	five, six := number(5), number(6)
	null := api.Cell{}
	for _, c := range []struct {
		l    []api.Cell
		mask string
		kept []api.Cell
	}{
		{[]api.Cell{five, null, six}, "\x02", []api.Cell{five, six}}, // the chapter's example
		{nil, "", nil}, {[]api.Cell{}, "", nil},
		{[]api.Cell{null}, "\x01", nil},
		{[]api.Cell{five}, "", []api.Cell{five}},
		{[]api.Cell{number(0)}, "", []api.Cell{number(0)}},
		{[]api.Cell{text("")}, "", []api.Cell{text("")}},
		{[]api.Cell{text(""), null}, "\x02", []api.Cell{text("")}},
		{[]api.Cell{null, number(0)}, "\x01", []api.Cell{number(0)}},
		{[]api.Cell{null, null}, "\x03", nil},
		{[]api.Cell{null, text("b"), null, text("a")}, "\x05", []api.Cell{text("b"), text("a")}},
		{[]api.Cell{six, five, five, null}, "\x08", []api.Cell{six, five, five}},
		{[]api.Cell{five, text("a"), {Kind: 3}, null, {Kind: -1, N: 7, S: "q"}}, "\x08", []api.Cell{five, text("a"), {Kind: 3}, {Kind: -1, N: 7, S: "q"}}},
		{make([]api.Cell, 7), "\x7f", nil},
		{make([]api.Cell, 8), "\xff", nil},
		{make([]api.Cell, 9), "\xff\x01", nil},
		{make([]api.Cell, 16), "\xff\xff", nil},
		{make([]api.Cell, 17), "\xff\xff\x01", nil},
		{make([]api.Cell, most), strings.Repeat("\xff", most/8), nil},
		{withNulls(7, 6), "\x40", others(6)},
		{withNulls(8, 7), "\x80", others(7)},
		{withNulls(9, 8), "\x00\x01", others(8)},
		{withNulls(16, 15), "\x00\x80", others(15)},
		{withNulls(17, 16), "\x00\x00\x01", others(16)},
		{withNulls(17, 0), "\x01\x00\x00", others(17)[1:]},
		{withNulls(9, 0, 8), "\x01\x01", others(8)[1:]},
		{withNulls(most, most-1), strings.Repeat("\x00", most/8-1) + "\x80", others(most - 1)},
	} {
		splits(t, c.l, c.mask, c.kept)
		counts(t, c.mask, len(c.l), len(c.l)-len(c.kept), api.OK)
		joins(t, c.mask, len(c.l), c.kept, c.l)
		goes(t, c.l)
	}
}

// All cells that are nulls or not, up to ten.
func TestFewCells(t *testing.T) {
	for count := range 11 {
		for which := range 1 << count {
			l := others(count)
			for k := range l {
				if which>>k&1 == 1 {
					l[k] = api.Cell{}
				}
			}
			goes(t, l)
		}
	}
}

func TestOneNull(t *testing.T) {
	for _, count := range someCounts {
		goes(t, others(count))
		goes(t, make([]api.Cell, count))
		for _, at := range []int{0, count / 2, count - 1, min(count-1, 7), min(count-1, 8)} {
			goes(t, withNulls(count, at))
			l := make([]api.Cell, count)
			l[at] = text("")
			goes(t, l)
		}
	}
}

func TestManyCells(t *testing.T) {
	s := stir(1)
	for count := range 150 {
		for _, oneOf := range []int{1, 2, 5, 40} {
			goes(t, s.cells(count, oneOf))
		}
	}
	for _, oneOf := range []int{1, 2, 1000, 2 * most} {
		goes(t, s.cells(most, oneOf))
		goes(t, s.cells(most-1, oneOf))
	}
}

// Of more cells there is no mask; but those that are no nulls are there, all.
func TestSplitOfTooMany(t *testing.T) {
	s := stir(2)
	for _, count := range []int{most + 1, most + 2, most + 8, 2 * most, 1 << 20} {
		for _, l := range [][]api.Cell{others(count), make([]api.Cell, count), withNulls(count, 0), withNulls(count, count-1), s.cells(count, 3)} {
			kept, _ := split(l)
			splits(t, l, "", kept)
		}
	}
}

// A null is told by its Kind, whatever else it has, and is joined as an empty one; a cell of no Kind is none.
func TestKindTells(t *testing.T) {
	for _, null := range someNulls {
		for _, c := range someCells {
			splits(t, []api.Cell{null}, "\x01", nil)
			splits(t, []api.Cell{c}, "", []api.Cell{c})
			splits(t, []api.Cell{c, null}, "\x02", []api.Cell{c})
			splits(t, []api.Cell{null, c}, "\x01", []api.Cell{c})
			splits(t, []api.Cell{c, null, c, null}, "\x0a", []api.Cell{c, c})
			joins(t, "\x0a", 4, []api.Cell{c, c}, []api.Cell{c, {}, c, {}})
			mask, kept := Split([]api.Cell{null, c, null})
			joins(t, mask, 3, kept, []api.Cell{{}, c, {}})
		}
	}
}

// ErrArg comes ahead of ErrForm: some of the bytes here are no mask besides, and some cells not those that it wants.
func TestWrongCounts(t *testing.T) {
	for _, n := range wrongCounts {
		for _, s := range []string{"", "\x00", "\x01", "\x02", "\xff", "\x00\x00", "\x05\x01", strings.Repeat("\xff", most/8), strings.Repeat("\xff", most/8) + "\x01", strings.Repeat("\x00", most/8+1)} {
			counts(t, s, n, 0, api.ErrArg)
			for _, l := range [][]api.Cell{nil, {{}}, others(1), others(2), {number(1), {}}} {
				joinsNone(t, s, n, l, api.ErrArg)
			}
		}
	}
	joinsNone(t, "", most+1, others(most+1), api.ErrArg)
	joinsNone(t, strings.Repeat("\xff", most/8)+"\x01", most+1, nil, api.ErrArg)
	joinsNone(t, "\x01"+strings.Repeat("\x00", most/8), most+1, others(most), api.ErrArg)
}

// No bytes are the mask of cells of which none is a null.
func TestNoBytes(t *testing.T) {
	for _, n := range append([]int{0}, someCounts...) {
		counts(t, "", n, 0, api.OK)
		joins(t, "", n, others(n), others(n))
		joinsNone(t, "", n, others(n+1), api.ErrForm)
		if n > 0 {
			joinsNone(t, "", n, others(n-1), api.ErrForm)
			joinsNone(t, "", n, nil, api.ErrForm)
		}
	}
	for _, s := range []string{"\x00", "\x01", "\x80", "\xff", "\x00\x00", "\x01\x00", strings.Repeat("\xff", most/8)} {
		noMask(t, s, 0)
	}
}

// Bytes that tell no null are no mask: there would be none.
func TestBytesThatTellNoNull(t *testing.T) {
	for _, n := range someCounts {
		noughts := strings.Repeat("\x00", (n+7)/8)
		noMask(t, noughts, n)
		noMask(t, noughts[1:]+"\x00\x00", n)
		asMeant(t, noughts[1:]+"\x01", n)
	}
}

func TestMaskThatIsCutOff(t *testing.T) {
	s := stir(3)
	for count := 1; count < 70; count++ {
		for _, oneOf := range []int{1, 2, 5} {
			l := s.cells(count, oneOf)
			l[count-1], l[0] = api.Cell{}, api.Cell{}
			mask := maskOf(l)
			asMeant(t, mask, count)
			// All bytes cut off is the mask of no nulls.
			for k := 1; k < len(mask); k++ {
				noMask(t, mask[:k], count)
				noMask(t, mask[k:], count)
			}
			for _, behind := range []string{"\x00", "\x01", "\x80", "\xff", "\x00\x00", mask} {
				noMask(t, mask+behind, count)
				noMask(t, behind+mask, count)
			}
		}
	}
	long := strings.Repeat("\xff", most/8)
	noMask(t, long[1:], most)
	noMask(t, long+"\x00", most)
	noMask(t, long+"\xff", most)
	noMask(t, strings.Repeat("\xff", 1<<20), most)
}

func TestFillingBits(t *testing.T) {
	for count := 1; count < 70; count++ {
		for _, places := range [][]int{{0}, {count - 1}, {0, count / 2, count - 1}} {
			mask := []byte(maskOf(withNulls(count, places...)))
			last := mask[len(mask)-1]
			for bit := 1 + (count-1)%8; bit < 8; bit++ {
				mask[len(mask)-1] = last | 1<<bit
				noMask(t, string(mask), count)
				mask[len(mask)-1] = last | 0xff<<bit
				noMask(t, string(mask), count)
				// A filling bit alone tells of no null either.
				noMask(t, strings.Repeat("\x00", len(mask)-1)+string([]byte{1 << bit}), count)
			}
		}
	}
}

// A mask is one of other cells, too, if these have as many bytes, and all of its nulls.
func TestMaskOfAnotherCount(t *testing.T) {
	for count := 1; count < 40; count++ {
		for _, at := range []int{0, count / 2, count - 1} {
			mask := maskOf(withNulls(count, at))
			for n := range 60 {
				if is, want := asMeant(t, mask, n), (n+7)/8 == (count+7)/8 && at < n; is != want {
					t.Errorf("the mask of %d cells with a null at %d, of %d: %v", count, at, n, is)
				}
			}
		}
	}
	mask := maskOf(withNulls(most, 5))
	asMeant(t, mask, most-7)
	noMask(t, mask, most-8)
	noMask(t, strings.Repeat("\xff", most/8), most-1)
}

// Any bytes, with counts around those that they may be of.
func TestAnyBytes(t *testing.T) {
	is := 0
	for word := range 1 << 16 {
		two := string([]byte{byte(word), byte(word >> 8)})
		for _, s := range []string{two, two[:1]} {
			for _, n := range []int{0, 1, 3, 7, 8, 9, 12, 15, 16, 17} {
				told, ok := nullsIn(s, n)
				got, errno := Count(s, n)
				want, wantErrno := 0, api.ErrForm
				if ok {
					is++
					wantErrno = api.OK
					for _, null := range told {
						if null {
							want++
						}
					}
				}
				if got != want || errno != wantErrno {
					t.Fatalf("Count(%x, %d): %d, %d, not %d, %d", s, n, got, errno, want, wantErrno)
				}
			}
		}
	}
	if is < 100000 {
		t.Errorf("%d alone are masks", is)
	}
}

// A mask of which one byte is another one.
func TestChangedBytes(t *testing.T) {
	s := stir(4)
	for range 30 {
		l := s.cells(1+s.below(40), 1+s.below(4))
		mask := []byte(maskOf(l))
		for at, b := range mask {
			for changed := range 256 {
				mask[at] = byte(changed)
				asMeant(t, string(mask), len(l))
			}
			mask[at] = b
		}
	}
}

// Nu2

func TestJoinOfAnotherNumberOfCells(t *testing.T) {
	s := stir(5)
	for count := range 40 {
		for _, oneOf := range []int{1, 2, 3, 100} {
			l := s.cells(count, oneOf)
			mask := maskOf(l)
			kept, nulls := split(l)
			joins(t, mask, count, kept, l)
			for given := range count + 20 {
				if given != len(kept) {
					joinsNone(t, mask, count, others(given), api.ErrForm)
				}
			}
			if nulls > 0 {
				joinsNone(t, mask, count, others(count), api.ErrForm)
				joinsNone(t, mask, count, l, api.ErrForm)
			}
		}
	}
	for _, c := range []struct {
		mask  string
		n     int
		wants int
	}{
		{"\x02", 3, 2}, {"\x01", 1, 0}, {"\x07", 3, 0}, {"", 1, 1}, {"", 0, 0}, {"\xff\x01", 9, 0}, {"\xff\x01", 16, 7}, {"", most, most}, {strings.Repeat("\xff", most/8), most, 0}, {"\x01" + strings.Repeat("\x00", most/8-1), most, most - 1},
	} {
		if _, errno := Join(c.mask, c.n, others(c.wants)); errno != api.OK {
			t.Errorf("Join(%x.., %d), of %d cells: %d", shortBytes(c.mask), c.n, c.wants, errno)
		}
		for _, given := range []int{c.wants - 1, c.wants + 1, c.wants - 2, c.wants + 2, 0, most, most + 1, most + c.wants, 1<<17 + c.wants} {
			if given >= 0 && given != c.wants {
				joinsNone(t, c.mask, c.n, others(given), api.ErrForm)
			}
		}
	}
}

// A null among those that are joined, with as many cells as are wanted, one fewer, and one more.
func TestJoinOfNulls(t *testing.T) {
	s := stir(6)
	for count := range 20 {
		for _, oneOf := range []int{1, 2, 5, 100} {
			l := s.cells(count, oneOf)
			mask := maskOf(l)
			kept, _ := split(l)
			for at := range kept {
				for _, null := range someNulls {
					wrong := slices.Clone(kept)
					wrong[at] = null
					joinsNone(t, mask, count, wrong, api.ErrForm)
					joinsNone(t, mask, count, append(wrong, number(1)), api.ErrForm)
					joinsNone(t, mask, count, wrong[1:], api.ErrForm)
					joinsNone(t, mask, count, wrong[:len(wrong)-1], api.ErrForm)
				}
			}
			for _, null := range someNulls {
				for at := range len(kept) + 1 {
					joinsNone(t, mask, count, slices.Insert(slices.Clone(kept), at, null), api.ErrForm)
				}
				joinsNone(t, mask, count, slices.Repeat([]api.Cell{null}, len(kept)+1), api.ErrForm)
				if len(kept) > 0 {
					joinsNone(t, mask, count, slices.Repeat([]api.Cell{null}, len(kept)), api.ErrForm)
				}
			}
		}
	}
	for _, at := range []int{0, most / 2, most - 1} {
		joinsNone(t, "", most, withNulls(most, at), api.ErrForm)
	}
	joinsNone(t, "\x01", 1, []api.Cell{{}}, api.ErrForm)
	joinsNone(t, "\x02", 3, []api.Cell{number(5), {}, number(6)}, api.ErrForm)
}

// The cells that are joined are those that were given, whatever they are, in their order.
func TestJoinOfAnyCells(t *testing.T) {
	for _, c := range someCells {
		joins(t, "", 1, []api.Cell{c}, []api.Cell{c})
		joins(t, "\x05", 3, []api.Cell{c}, []api.Cell{{}, c, {}})
		joins(t, "\x04", 5, []api.Cell{c, number(1), c, text("z")}, []api.Cell{c, number(1), {}, c, text("z")})
	}
	joins(t, "", len(someCells), someCells, someCells)
}

// Nu3

func TestWhatIsSplitIsJoined(t *testing.T) {
	s := stir(7)
	for k := range 20000 {
		l := s.cells(s.below(80), 1+s.below(6))
		if k == 0 {
			l = s.cells(most, 2)
		}
		mask, kept := Split(l)
		if back, errno := Join(mask, len(l), kept); errno != api.OK || !slices.Equal(back, l) {
			t.Fatalf("Join of Split of %v..: %v.., %d", short(l), short(back), errno)
		}
		if nulls, errno := Count(mask, len(l)); errno != api.OK || nulls != len(l)-len(kept) {
			t.Fatalf("Count of Split of %v..: %d, %d", short(l), nulls, errno)
		}
	}
}

func TestWhatIsJoinedIsSplit(t *testing.T) {
	s := stir(8)
	is := 0
	for range 50000 {
		bytes := make([]byte, s.below(4))
		for k := range bytes {
			bytes[k] = byte(s.below(1 << s.below(9)))
		}
		n := s.below(26)
		nulls, errno := Count(string(bytes), n)
		if errno != api.OK {
			continue
		}
		is++
		l, errno := Join(string(bytes), n, others(n-nulls))
		if errno != api.OK {
			t.Fatalf("Join(%x, %d), of %d: %d", bytes, n, n-nulls, errno)
		}
		splits(t, l, string(bytes), others(n-nulls))
	}
	if is < 10000 {
		t.Errorf("%d alone are masks", is)
	}
}

// R1 to R4

// What is handed in stays as it is, and what lies behind its end is not read.
func TestRulesOfArguments(t *testing.T) {
	l := []api.Cell{{N: 7}, number(5), {}, text("a"), {S: "x"}, number(6)}
	was := slices.Clone(l)
	splits(t, l, "\x15", []api.Cell{number(5), text("a"), number(6)})
	splits(t, l[:3], "\x05", []api.Cell{number(5)})
	splits(t, l[1:2], "", []api.Cell{number(5)})
	splits(t, l[:0], "", nil)
	splits(t, l[1:4], "\x02", []api.Cell{number(5), text("a")})
	if !slices.Equal(l, was) {
		t.Errorf("the cells became %v", l)
	}
	given := []api.Cell{number(5), text("a"), {}, number(6)}
	was = slices.Clone(given)
	joins(t, "\x02", 3, given[:2], []api.Cell{number(5), {}, text("a")})
	joins(t, "\x03", 3, given[:1], []api.Cell{{}, {}, number(5)})
	joins(t, "\x07", 3, given[:0], make([]api.Cell, 3))
	joins(t, "\x01", 2, given[3:], []api.Cell{{}, number(6)})
	joinsNone(t, "\x02", 3, given[:1], api.ErrForm)
	joinsNone(t, "\x02", 3, given[1:3], api.ErrForm)
	joinsNone(t, "\x02", 5, given, api.ErrForm)
	if !slices.Equal(given, was) {
		t.Errorf("the cells became %v", given)
	}
	long := "\xff\x02\xff"
	joins(t, long[1:2], 3, given[:2], []api.Cell{number(5), {}, text("a")})
	counts(t, long[1:2], 3, 1, api.OK)
	counts(t, long[1:1], 3, 0, api.OK)
}

// What is answered is new memory, of cells without nulls, too.
func TestRulesOfAnswers(t *testing.T) {
	for _, l := range [][]api.Cell{{number(5), {}, number(6)}, {number(5), number(6)}, {number(5)}, {{}, {}, number(1), {}}} {
		was := slices.Clone(l)
		mask, kept := Split(l)
		_, again := Split(l)
		wantKept := slices.Clone(kept)
		back, _ := Join(mask, len(l), kept)
		other, _ := Join(mask, len(l), kept)
		clear(back)
		_ = append(back[:0], slices.Repeat([]api.Cell{text("q")}, cap(back))...)
		if !slices.Equal(kept, wantKept) || !slices.Equal(other, was) {
			t.Errorf("what is joined shares memory: %v, %v", kept, other)
		}
		clear(kept)
		_ = append(kept[:0], slices.Repeat([]api.Cell{text("q")}, cap(kept))...)
		if !slices.Equal(l, was) || !slices.Equal(again, wantKept) || !slices.Equal(other, was) {
			t.Errorf("what is split shares memory: %v, %v, %v", l, again, other)
		}
	}
}

// No call panics, whatever it is given, and the same is answered again; beside an error there is nothing.
func TestAnyArguments(t *testing.T) {
	s := stir(9)
	parts := slices.Concat(wrongCounts, []int{0, 1, 2, 3, 7, 8, 9, 15, 16, 17, 24, 25, 3, 8, 9, 16, 0, 1, 2, 3, 7, 8, 9})
	for range 50000 {
		bytes := make([]byte, s.below(5))
		for k := range bytes {
			bytes[k] = byte(s.below(1 << s.below(9)))
		}
		n, mask := parts[s.below(len(parts))], string(bytes)
		l := s.cells(s.below(20), 8)
		want, wantCount, wantErrno := []api.Cell(nil), 0, api.ErrArg
		wantJoin := api.ErrArg
		if n >= 0 && n <= most {
			told, ok := nullsIn(mask, n)
			wantErrno, wantJoin = api.ErrForm, api.ErrForm
			if ok {
				wantErrno = api.OK
				for _, null := range told {
					if null {
						wantCount++
					}
				}
				if made, ok := joined(told, l); ok {
					want, wantJoin = made, api.OK
				}
			}
		}
		for range 2 {
			counts(t, mask, n, wantCount, wantErrno)
			if wantJoin == api.OK {
				joins(t, mask, n, l, want)
			} else {
				joinsNone(t, mask, n, l, wantJoin)
			}
			kept, _ := split(l)
			splits(t, l, maskOf(l), kept)
		}
		if t.Failed() {
			t.FailNow()
		}
	}
}
