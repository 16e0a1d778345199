package block

import (
	"math"
	"peristyle/api"
	"slices"
	"strings"
	"testing"
)

var (
	intCodes    = []int{api.CodePlain, api.CodeRuns, api.CodeFrame, api.CodeDict, api.CodePack}
	textCodes   = []int{api.CodePlain, api.CodeRuns, api.CodeDict}
	noCodes     = []int{0, 6, 7, -1, -2, 100, 127, 128, 255, 256, 257, 258, 259, 260, 261, -255, -254, 1 << 32, 1<<32 + 1, 1<<32 + 5, math.MinInt, math.MinInt + 1, math.MaxInt}
	noKinds     = []int{0, 3, 4, -1, -2, 255, 256, 257, 258, -254, -255, 1<<32 + 1, 1<<32 + 2, math.MinInt, math.MinInt + 1, math.MinInt + 2, math.MaxInt}
	edgeNumbers = []int{0, 1, -1, 2, 7, 63, 64, -64, -65, 127, 128, 255, 256, -8192, 8192, 1 << 31, 1 << 32, -1 << 32, 1 << 62, math.MinInt, math.MinInt + 1, math.MaxInt, math.MaxInt - 1}
	edgeTexts   = []string{"", "a", "b", "ab", "aa", "null", "\x00", "\x00\x00", "\xff", "'", strings.Repeat("x", longest), strings.Repeat("x", longest-1), strings.Repeat("\xff", longest)}
	someCounts  = []int{1, 2, 3, 7, 8, 9, 15, 16, 17, 33, 62, 63, 64}
)

// codesOf are the codes for a kind.
func codesOf(kind int) []int {
	if kind == api.Int {
		return intCodes
	}
	return textCodes
}

// other is the kind that one is not.
func other(kind int) int { return api.Int + api.Text - kind }

// one is a cell of a kind.
func one(kind int) api.Cell {
	if kind == api.Int {
		return number(5)
	}
	return text("ab")
}

// stirrer gives numbers by a fixed rule.
type stirrer struct{ word uint64 }

func stir(seed int) *stirrer { return &stirrer{uint64(seed)*2 + 1} }

func (s *stirrer) next() uint64 {
	s.word = s.word*6364136223846793005 + 1442695040888963407
	return s.word ^ s.word>>29
}

func (s *stirrer) below(n int) int { return int(s.next() >> 11 % uint64(n)) }

// value is a cell of a kind, one of few, or of a width, or at an edge, as a manner tells.
func (s *stirrer) value(kind, manner int) api.Cell {
	if kind == api.Int {
		switch manner {
		case 0:
			return number(edgeNumbers[s.below(len(edgeNumbers))])
		case 1:
			return number(s.below(3))
		case 2:
			return number(int(s.next()))
		}
		return number(int(s.next() >> (64 - s.below(manner*8))))
	}
	switch manner {
	case 0:
		return text(edgeTexts[s.below(len(edgeTexts))])
	case 1:
		return text(edgeTexts[s.below(2)])
	}
	made := make([]byte, s.below(min(longest+1, manner*3)))
	for k := range made {
		made[k] = byte(s.next() >> 20)
	}
	return text(string(made))
}

// cells are so many of a kind, of which one of so many is a null, and one of so many another one than that ahead; 0: none is.
func (s *stirrer) cells(kind, count, nullOf, newOf int) []api.Cell {
	l := make([]api.Cell, count)
	manner := s.below(8)
	value := s.value(kind, manner)
	for k := range l {
		if newOf > 0 && s.below(newOf) == 0 {
			value = s.value(kind, manner)
		}
		if nullOf == 0 || s.below(nullOf) > 0 {
			l[k] = value
		}
	}
	return l
}

// lists are cells of a kind: of each count, with and without nulls, alike and not.
func lists(kind, seed int) [][]api.Cell {
	s := stir(seed)
	var all [][]api.Cell
	for _, count := range someCounts {
		for _, nullOf := range []int{0, 1, 2, 5, 40} {
			for _, newOf := range []int{0, 1, 3, 20} {
				all = append(all, s.cells(kind, count, nullOf, newOf))
			}
		}
	}
	return all
}

// short is what is told of a list: its beginning alone.
func short[T any](l []T) []T { return l[:min(len(l), 12)] }

// puts fails if Put does not answer these bytes.
func puts(t *testing.T, l []api.Cell, kind, code int, want string) {
	t.Helper()
	if s, e := Put(l, kind, code); s != want || e != api.OK {
		t.Errorf("Put(%d: %v.., %d, %d): %x, %d, not %x", len(l), short(l), kind, code, s, e, want)
	}
}

// putsNone fails if Put does not answer ErrArg alone.
func putsNone(t *testing.T, l []api.Cell, kind, code int) {
	t.Helper()
	if s, e := Put(l, kind, code); s != "" || e != api.ErrArg {
		t.Errorf("Put(%d: %v.., %d, %d): %x, %d, not ErrArg alone", len(l), short(l), kind, code, s, e)
	}
}

// noCells fails if cells are not refused by each code, and by Best.
func noCells(t *testing.T, l []api.Cell, kind int) {
	t.Helper()
	for _, code := range append(slices.Clone(intCodes), noCodes...) {
		putsNone(t, l, kind, code)
	}
	if s, code, e := Best(l, kind); s != "" || code != 0 || e != api.ErrArg {
		t.Errorf("Best(%d: %v.., %d): %x, %d, %d, not ErrArg alone", len(l), short(l), kind, s, code, e)
	}
}

// noBlock fails if bytes are not refused by Take, Look and Body.
func noBlock(t *testing.T, s string) {
	t.Helper()
	if l, e := Take(s); len(l) != 0 || e != api.ErrCorrupt {
		t.Fatalf("Take(%x): %v.., %d, not ErrCorrupt alone", s, short(l), e)
	}
	if head, e := Look(s); head != (api.Head{}) || e != api.ErrCorrupt {
		t.Fatalf("Look(%x): %v, %d, not ErrCorrupt alone", s, head, e)
	}
	if body, mask, e := Body(s); body != "" || mask != "" || e != api.ErrCorrupt {
		t.Fatalf("Body(%x): %x, %x, %d, not ErrCorrupt alone", s, body, mask, e)
	}
}

// isBlock fails if Take, Look and Body do not tell these of bytes.
func isBlock(t *testing.T, s string, l []api.Cell, head api.Head, body, mask string) {
	t.Helper()
	if got, e := Take(s); !slices.Equal(got, l) || e != api.OK {
		t.Fatalf("Take(%x): %d, %v.., %d, not %d, %v..", s, len(got), short(got), e, len(l), short(l))
	}
	if got, e := Look(s); got != head || e != api.OK {
		t.Fatalf("Look(%x): %v, %d, not %v", s, got, e, head)
	}
	if gotBody, gotMask, e := Body(s); gotBody != body || gotMask != mask || e != api.OK {
		t.Fatalf("Body(%x): %x, %x, %d, not %x, %x", s, gotBody, gotMask, e, body, mask)
	}
}

// headOf is the head that cells' block has.
func headOf(l []api.Cell, kind, code int) api.Head {
	head := api.Head{Kind: kind, Code: code, Count: len(l)}
	for _, c := range l {
		if c.Kind == api.Null {
			head.Nulls++
		}
	}
	return head
}

// goes fails if cells are not put as it is meant by each code, and taken again, and the best is not the first of the shortest ones.
func goes(t *testing.T, l []api.Cell, kind int) {
	t.Helper()
	best, bestCode := "", 0
	for _, code := range codesOf(kind) {
		p, _ := partsOf(l, kind, code)
		s := p.sealed()
		puts(t, l, kind, code, s)
		isBlock(t, s, l, headOf(l, kind, code), p.body, p.mask)
		if best == "" || len(s) < len(best) {
			best, bestCode = s, code
		}
	}
	if s, code, e := Best(l, kind); s != best || code != bestCode || e != api.OK {
		t.Errorf("Best(%d: %v.., %d): %x, %d, %d, not %x, %d", len(l), short(l), kind, s, code, e, best, bestCode)
	}
	for _, code := range noCodes {
		putsNone(t, l, kind, code)
	}
}

// asMeant fails if bytes are not told as the chapter's words tell them; it tells whether they are a block.
func asMeant(t *testing.T, s string) bool {
	t.Helper()
	l, head, ok := told(s)
	if !ok {
		noBlock(t, s)
		return false
	}
	p, _ := partsOf(l, head.Kind, head.Code)
	isBlock(t, s, l, head, p.body, p.mask)
	return true
}

// Bl1

// The whole bytes of a block of each code, with the sums as another program told them.
func TestWholeBytes(t *testing.T) {
	some := []api.Cell{number(5), {}, number(5), number(6)}
	words := []api.Cell{text("ab"), text("ab"), {}, text("ab"), text("c")}
	for _, c := range []struct {
		l          []api.Cell
		kind, code int
		s          string
	}{
		{some, api.Int, api.CodePlain, "\x01\x01\x04\x01\x02\x05\x00\x00\x00\x00\x00\x00\x00\x05\x00\x00\x00\x00\x00\x00\x00\x06\x00\x00\x00\x00\x00\x00\x00\x0f\x41\x24\xcd"},
		{some, api.Int, api.CodeRuns, "\x01\x02\x04\x01\x02\x0a\x04\x0c\x02\xdb\x03\x09\x02"},
		{some, api.Int, api.CodeFrame, "\x01\x03\x04\x01\x02\x0a\x00\x01\x02\xf5\xe0\xd7\x15"},
		{some, api.Int, api.CodeDict, "\x01\x04\x04\x01\x02\x04\x0a\x0c\x04\x56\x25\x2c\x4c"},
		{some, api.Int, api.CodePack, "\x01\x05\x04\x01\x02\x03\xad\x01\x76\x3d\x45\x61"},
		{words, api.Text, api.CodePlain, "\x02\x01\x05\x01\x04\x02ab\x02ab\x02ab\x01c\x7a\x0d\x09\x11"},
		{words, api.Text, api.CodeRuns, "\x02\x02\x05\x01\x04\x04\x02ab\x01c\x00\x06\x02\x02\x9e\xa8\xf6\x3b"},
		{words, api.Text, api.CodeDict, "\x02\x04\x05\x01\x04\x04\x02ab\x01c\x08\x58\x8f\x07\x10"},
		{make([]api.Cell, 1), api.Int, api.CodePlain, "\x01\x01\x01\x01\x01\x2b\x3a\xae\xe4"},
		{make([]api.Cell, 1), api.Int, api.CodeRuns, "\x01\x02\x01\x01\x01\x12\xb3\x8c\x86"},
		{make([]api.Cell, 1), api.Int, api.CodeFrame, "\x01\x03\x01\x01\x01\xaa\x19\xc9\x5b"},
		{make([]api.Cell, 1), api.Int, api.CodeDict, "\x01\x04\x01\x01\x01\x60\xa1\xc9\x42"},
		{make([]api.Cell, 1), api.Int, api.CodePack, "\x01\x05\x01\x01\x01\x00\x3e\x66\xe8\x0b"},
		{make([]api.Cell, 1), api.Text, api.CodePlain, "\x02\x01\x01\x01\x01\xdf\x8a\x9d\xac"},
		{make([]api.Cell, 1), api.Text, api.CodeRuns, "\x02\x02\x01\x01\x01\xe6\x03\xbf\xce"},
		{make([]api.Cell, 1), api.Text, api.CodeDict, "\x02\x04\x01\x01\x01\x94\x11\xfa\x0a"},
		{numbers(-1), api.Int, api.CodePlain, "\x01\x01\x01\x00\xff\xff\xff\xff\xff\xff\xff\xff\x44\x14\x79\x82"},
		{numbers(-1), api.Int, api.CodeRuns, "\x01\x02\x01\x00\x01\x02\xf3\x8a\xe4\xe7"},
		{numbers(-1), api.Int, api.CodeFrame, "\x01\x03\x01\x00\x01\xdd\x81\x6b\x48"},
		{numbers(-1), api.Int, api.CodeDict, "\x01\x04\x01\x00\x02\x01\x76\xb0\x34\x50"},
		{numbers(-1), api.Int, api.CodePack, "\x01\x05\x01\x00\x40\xff\xff\xff\xff\xff\xff\xff\xff\x70\x2e\xc3\xfa"},
	} {
		puts(t, c.l, c.kind, c.code, c.s)
		end := 4 + int(c.s[3])
		isBlock(t, c.s, c.l, headOf(c.l, c.kind, c.code), c.s[end:len(c.s)-4], c.s[4:end])
		goes(t, c.l, c.kind)
	}
}

// The chapter's example: of 64 times 7 the dictionary is the shortest.
func TestExample(t *testing.T) {
	l := slices.Repeat(numbers(7), most)
	if s, code, e := Best(l, api.Int); s != "\x01\x04\x40\x00\x02\x0e\x0d\x79\xc4\x78" || code != api.CodeDict || e != api.OK {
		t.Errorf("%x, %d, %d", s, code, e)
	}
	goes(t, l, api.Int)
}

func TestHowManyCells(t *testing.T) {
	for _, kind := range []int{api.Int, api.Text} {
		noCells(t, nil, kind)
		noCells(t, []api.Cell{}, kind)
		for _, c := range []api.Cell{one(kind), {}} {
			for count := 1; count <= most; count++ {
				goes(t, slices.Repeat([]api.Cell{c}, count), kind)
			}
			for _, count := range []int{65, 66, 128, 255, 256, 257, 256 + most, 512, 1 << 16, 1<<16 + 1} {
				noCells(t, slices.Repeat([]api.Cell{c}, count), kind)
			}
		}
	}
}

func TestNulls(t *testing.T) {
	for _, kind := range []int{api.Int, api.Text} {
		s := stir(1)
		for _, count := range someCounts {
			goes(t, make([]api.Cell, count), kind)
			goes(t, s.cells(kind, count, 0, 1), kind)
			for _, at := range []int{0, count / 2, count - 1, min(count-1, 7), min(count-1, 8)} {
				l := s.cells(kind, count, 0, 2)
				l[at] = api.Cell{}
				goes(t, l, kind)
				l = make([]api.Cell, count)
				l[at] = one(kind)
				goes(t, l, kind)
			}
		}
		// All that may be nulls, of few cells.
		for count := 1; count <= 9; count++ {
			for which := range 1 << count {
				l := make([]api.Cell, count)
				for k := range l {
					if which>>k&1 == 0 {
						l[k] = s.value(kind, 1)
					}
				}
				goes(t, l, kind)
			}
		}
	}
}

func TestKindsThatAreNone(t *testing.T) {
	for _, kind := range noKinds {
		for _, c := range []api.Cell{{}, number(5), number(0), text("a"), text(""), {Kind: kind}, {Kind: kind, N: 1}, {Kind: kind, S: "a"}} {
			noCells(t, []api.Cell{c}, kind)
			noCells(t, []api.Cell{c, {}}, kind)
		}
		noCells(t, nil, kind)
		noCells(t, make([]api.Cell, most), kind)
	}
}

func TestCodesThatAreNone(t *testing.T) {
	for _, kind := range []int{api.Int, api.Text} {
		for _, l := range [][]api.Cell{{one(kind)}, {{}}, slices.Repeat([]api.Cell{one(kind), {}}, 32)} {
			for _, code := range noCodes {
				putsNone(t, l, kind, code)
			}
			if kind == api.Text {
				putsNone(t, l, kind, api.CodeFrame)
				putsNone(t, l, kind, api.CodePack)
			}
		}
	}
}

func TestCellsOfTheOtherKind(t *testing.T) {
	for _, kind := range []int{api.Int, api.Text} {
		for _, count := range someCounts {
			l := slices.Repeat([]api.Cell{one(other(kind))}, count)
			noCells(t, l, kind)
			for at := range count {
				l := slices.Repeat([]api.Cell{one(kind)}, count)
				l[at] = one(other(kind))
				noCells(t, l, kind)
				l = make([]api.Cell, count)
				l[at] = one(other(kind))
				noCells(t, l, kind)
			}
		}
	}
	noCells(t, numbers(0), api.Text)
	noCells(t, texts(""), api.Int)
}

func TestCellsThatMayNotBe(t *testing.T) {
	long := strings.Repeat("x", longest)
	goes(t, texts(long), api.Text)
	for _, c := range []api.Cell{
		text(long + "x"), text(strings.Repeat("y", 255)), text(strings.Repeat("y", 256)), text(strings.Repeat("y", 257)), text(strings.Repeat("y", 1000)),
		{Kind: api.Int, N: 5, S: "a"}, {Kind: api.Int, S: "a"}, {Kind: api.Text, N: 5, S: "a"}, {Kind: api.Text, N: 1}, {Kind: api.Text, N: math.MinInt, S: long},
		{N: 1}, {S: "a"}, {N: -1, S: "null"}, {N: math.MinInt}, {S: long + "x"},
		{Kind: 3}, {Kind: -1}, {Kind: 256}, {Kind: 257, N: 1}, {Kind: 258, S: "a"}, {Kind: math.MinInt}, {Kind: math.MaxInt},
	} {
		for _, kind := range []int{api.Int, api.Text} {
			noCells(t, []api.Cell{c}, kind)
			for _, at := range []int{0, 1, 31, most - 1} {
				l := slices.Repeat([]api.Cell{one(kind)}, most)
				l[at] = c
				noCells(t, l, kind)
				l = make([]api.Cell, most)
				l[at] = c
				noCells(t, l, kind)
			}
		}
	}
}

func TestNumbers(t *testing.T) {
	for _, a := range edgeNumbers {
		goes(t, numbers(a), api.Int)
		goes(t, slices.Repeat(numbers(a), most), api.Int)
		for _, b := range edgeNumbers {
			goes(t, numbers(a, b), api.Int)
			goes(t, []api.Cell{number(a), {}, number(b), number(a)}, api.Int)
			// Evenly spaced, also where it goes round.
			even := make([]api.Cell, most)
			for k := range even {
				even[k] = number(a + k*b)
			}
			goes(t, even, api.Int)
		}
	}
	goes(t, numbers(edgeNumbers...), api.Int)
	s := stir(2)
	for width := range 65 {
		l := make([]api.Cell, most)
		for k := range l {
			l[k] = number(int(s.next() >> (64 - width)))
		}
		goes(t, l, api.Int)
	}
}

func TestTexts(t *testing.T) {
	for _, a := range edgeTexts {
		goes(t, texts(a), api.Text)
		goes(t, slices.Repeat(texts(a), most), api.Text)
		for _, b := range edgeTexts {
			goes(t, texts(a, b), api.Text)
			goes(t, []api.Cell{text(a), {}, text(b), text(a)}, api.Text)
		}
	}
	goes(t, texts(edgeTexts...), api.Text)
	var apart, long []api.Cell
	for k := range most {
		apart = append(apart, text(strings.Repeat(string([]byte{byte(k * 4)}), 1+k%longest)))
		long = append(long, text(strings.Repeat(string([]byte{byte(255 - k*4)}), longest)))
	}
	goes(t, apart, api.Text)
	goes(t, long, api.Text)
	goes(t, slices.Repeat(long[:1], most), api.Text)
	if s, _ := Put(long, api.Text, api.CodePlain); len(s) != 4+most*(1+longest)+4 {
		t.Errorf("64 texts of 32 bytes: %d", len(s))
	}
}

func TestManyLists(t *testing.T) {
	for _, kind := range []int{api.Int, api.Text} {
		for seed := range 6 {
			for _, l := range lists(kind, 10+seed) {
				goes(t, l, kind)
			}
		}
	}
}

// Each code is the best one of some cells, and of those as short the least one is.
func TestBest(t *testing.T) {
	s := stir(3)
	var wide, narrow []api.Cell
	for range most {
		wide = append(wide, number(int(s.next())))
		narrow = append(narrow, number(s.below(16)))
	}
	bits := func(l []api.Cell) []api.Cell { return slices.Concat(l, l, l, l) }
	for _, c := range []struct {
		l    []api.Cell
		kind int
		code int
		body int
	}{
		{wide, api.Int, api.CodePlain, 512},
		{slices.Concat(slices.Repeat(numbers(1), 20), slices.Repeat(numbers(100000), 20)), api.Int, api.CodeRuns, 6},
		{numbers(1000, 1003, 1006, 1009), api.Int, api.CodeFrame, 4},
		{bits(numbers(1<<40, -1<<40, -1<<40, 1<<40)), api.Int, api.CodeDict, 15},
		{narrow, api.Int, api.CodePack, 33},
		{texts("a", "b", "c"), api.Text, api.CodePlain, 6},
		{slices.Concat(slices.Repeat(texts("a"), 32), slices.Repeat(texts("b"), 32)), api.Text, api.CodeRuns, 9},
		{bits(texts("a", "b", "b", "a")), api.Text, api.CodeDict, 7},

		{make([]api.Cell, 1), api.Int, api.CodePlain, 0},     // as short: all but CodePack
		{make([]api.Cell, most), api.Text, api.CodePlain, 0}, // as short: all
		{numbers(5, 5), api.Int, api.CodeRuns, 2},            // as short: CodeDict, CodePack
		{numbers(0), api.Int, api.CodeFrame, 1},              // as short: CodePack
		{numbers(5, 6), api.Int, api.CodePack, 2},
		{slices.Repeat(numbers(-1), 2), api.Int, api.CodeRuns, 2}, // as short: CodeDict
		{texts("", ""), api.Text, api.CodePlain, 2},               // as short: CodeDict
		{texts("", "", "", ""), api.Text, api.CodeDict, 2},
		{slices.Concat(slices.Repeat(texts("a"), 20), slices.Repeat(texts("b"), 12)), api.Text, api.CodeRuns, 9}, // as short: CodeDict
	} {
		s, code, e := Best(c.l, c.kind)
		body, _, _ := Body(s)
		if code != c.code || len(body) != c.body || e != api.OK {
			t.Errorf("Best(%d: %v.., %d): %x, %d, %d, not %d, of %d bytes", len(c.l), short(c.l), c.kind, body, code, e, c.code, c.body)
		}
		goes(t, c.l, c.kind)
	}
}

// Lists stay as they were, also in the room behind their end; what is answered is new, and the same each time.
func TestListsStay(t *testing.T) {
	for _, kind := range []int{api.Int, api.Text} {
		for _, l := range lists(kind, 4) {
			room := slices.Concat(l, []api.Cell{{Kind: 3}, {N: 1}, number(77), text("behind")})
			was := slices.Clone(room)
			for _, code := range append(slices.Clone(noCodes), intCodes...) {
				s, e := Put(room[:len(l)], kind, code)
				again, f := Put(room[:len(l)], kind, code)
				if s != again || e != f || !slices.Equal(room, was) {
					t.Fatalf("Put(%v.., %d, %d): %x, %d, and again %x, %d, of %v..", short(was), kind, code, s, e, again, f, short(room))
				}
			}
			s, _, _ := Best(room[:len(l)], kind)
			got, _ := Take(s)
			clear(got)
			if again, e := Take(s); !slices.Equal(again, l) || e != api.OK || !slices.Equal(room, was) {
				t.Fatalf("Take(%x), again: %v.., %d, of %v..", s, short(again), e, short(room))
			}
		}
	}
}

// Bl2

func TestFewBytes(t *testing.T) {
	noBlock(t, "")
	for _, s := range []string{"\x00", "\x01", "\xff", "\x01\x03\x01\x00\x01"} {
		for count := range 9 {
			noBlock(t, strings.Repeat(s, 8)[:count])
		}
		// With the sum, up to eight.
		for count := range 5 {
			noBlock(t, sealedBytes(strings.Repeat(s, 8)[:count]))
		}
	}
	for _, p := range []string{"\x01\x03\x01\x00\x01", "\x01\x01\x01\x01\x01", "\x02\x01\x01\x00\x00"} {
		if !asMeant(t, sealedBytes(p)) {
			t.Errorf("%x, sealed, is none", p)
		}
		for count := range p {
			noBlock(t, sealedBytes(p[:count]))
			noBlock(t, p[:count])
		}
	}
}

// Heads of all that they may tell, and some that they may not, with one byte behind.
func TestHeads(t *testing.T) {
	blocks := 0
	for kind := range 5 {
		for code := range 8 {
			for _, count := range []int{0, 1, 2, 7, 8, 9, 63, 64, 65, 66, 128, 255} {
				for _, mask := range []int{0, 1, 2, 8, 255} {
					head := bytesOf(kind, code, count, mask)
					noBlock(t, sealedBytes(head))
					for _, behind := range []int{0, 1, 2, 3, 7, 8, 63, 64, 65, 127, 128, 254, 255} {
						if asMeant(t, sealedBytes(head+bytesOf(behind))) {
							blocks++
						}
					}
				}
			}
		}
	}
	if blocks < 40 {
		t.Errorf("%d alone are blocks", blocks)
	}
	for _, head := range []string{"\x00\x03\x01\x00", "\x03\x03\x01\x00", "\xff\x03\x01\x00", "\x02\x03\x01\x00", "\x02\x05\x01\x00", "\x01\x00\x01\x00", "\x01\x06\x01\x00", "\x01\xff\x01\x00", "\x02\x00\x01\x00", "\x02\x06\x01\x00", "\x01\x03\x00\x00", "\x01\x03\x02\x00"} {
		noBlock(t, sealedBytes(head+"\x00"))
	}
}

func TestHowManyCellsTold(t *testing.T) {
	for _, count := range []int{0, 65, 66, 127, 128, 255} {
		noBlock(t, sealedBytes(bytesOf(1, 1, count, 0)+strings.Repeat("\x01", 8*count)))
		noBlock(t, sealedBytes(bytesOf(2, 1, count, 0)+strings.Repeat("\x00", count)))
		noBlock(t, sealedBytes(bytesOf(1, 2, count, 0)+groups(7, count)))
		noBlock(t, sealedBytes(bytesOf(1, 3, count, 0)+groups(7, 0)+"\x00"))
		noBlock(t, sealedBytes(bytesOf(1, 4, count, 0)+groups(1, 7)))
		noBlock(t, sealedBytes(bytesOf(1, 5, count, 0)+"\x00"))
		noBlock(t, sealedBytes(bytesOf(2, 2, count, 0)+groups(1)+"\x01a"+groups(0, count)))
		noBlock(t, sealedBytes(bytesOf(2, 4, count, 0)+groups(1)+"\x01a"))
	}
	// No cells, and no bytes of values.
	for kind := range 4 {
		for code := range 7 {
			noBlock(t, sealedBytes(bytesOf(kind, code, 0, 0)))
			noBlock(t, sealedBytes(bytesOf(kind, code, 0, 0)+"\x00"))
			noBlock(t, sealedBytes(bytesOf(kind, code, 0, 1)+"\x00"))
			noBlock(t, sealedBytes(bytesOf(kind, code, 0, 1)+"\x01"))
		}
	}
	// 65 nulls alone.
	noBlock(t, sealedBytes(bytesOf(1, 1, 65, 9)+strings.Repeat("\xff", 8)+"\x01"))
	noBlock(t, sealedBytes(bytesOf(1, 1, 255, 32)+strings.Repeat("\xff", 31)+"\x7f"))
}

// withMask are the bytes of so many cells, with a mask that may not be theirs, and so many values by a code.
func withMask(kind, code, count int, mask string, values int) string {
	l := slices.Repeat([]api.Cell{one(kind)}, values)
	if values == 0 {
		l = make([]api.Cell, 1) // without cells there would be no body
	}
	p, _ := partsOf(l, kind, code)
	return sealedBytes(bytesOf(kind, code, count, len(mask)) + mask + p.body)
}

func TestMasks(t *testing.T) {
	for _, kind := range []int{api.Int, api.Text} {
		for _, code := range codesOf(kind) {
			if !asMeant(t, withMask(kind, code, 9, "\x01\x01", 7)) || !asMeant(t, withMask(kind, code, 9, "", 9)) || !asMeant(t, withMask(kind, code, 3, "\x07", 0)) {
				t.Errorf("%d, %d: a mask that is none", kind, code)
			}
			for _, c := range []struct {
				count  int
				mask   string
				values int
			}{
				{9, "\x01", 8}, {9, "\x01\x01\x00", 7}, {9, "\x01\x01\x01", 6}, {8, "\x01\x00", 7}, {1, "\x01\x00", 0}, {17, "\x01\x00", 16}, {64, "\xff\xff\xff\xff\xff\xff\xff", 8}, // another length
				{9, "\x00\x00", 9}, {8, "\x00", 8}, {1, "\x00", 1}, {64, "\x00\x00\x00\x00\x00\x00\x00\x00", 64}, // no null
				{9, "\x01\x03", 6}, {9, "\x01\x03", 7}, {9, "\x01\x80", 7}, {9, "\x01\x80", 8}, {7, "\x81", 6}, {7, "\x80", 7}, {7, "\x80", 6}, {1, "\x03", 0}, {63, "\x00\x00\x00\x00\x00\x00\x00\x80", 63}, // filling bits
				{10, "\x01\x04", 9}, {3, "\x08", 2}, {3, "\x08", 3}, {2, "\x07", 0}, // of another number of cells
			} {
				noBlock(t, withMask(kind, code, c.count, c.mask, c.values))
			}
		}
	}
	// A mask longer than all that is left, and one byte longer.
	noBlock(t, sealedBytes("\x01\x01\x01\x02\x01"))
	noBlock(t, sealedBytes("\x01\x01\x01\x01"))
	noBlock(t, sealedBytes("\x01\x01\x01\xff\x01"))
	// A mask that tells another length than it has: what is left is the value's.
	noBlock(t, sealedBytes("\x02\x01\x02\x00\x01\x01a"))
	noBlock(t, sealedBytes("\x02\x01\x02\x02\x01\x01a"))
	asMeant(t, sealedBytes("\x02\x01\x02\x01\x01\x01a"))
}

// Values fewer and more than there are cells that are no nulls, each another one.
func TestHowManyValues(t *testing.T) {
	for _, kind := range []int{api.Int, api.Text} {
		values := make([]api.Cell, 30)
		for k := range values {
			values[k] = text("ab" + string([]byte{byte(k * 7)}))
			if kind == api.Int {
				values[k] = number(int(stir(k).next() | 1<<63))
			}
		}
		for _, code := range codesOf(kind) {
			for count := 1; count <= 20; count++ {
				for have := 1; have <= len(values); have++ {
					p, _ := partsOf(values[:have], kind, code)
					for _, mask := range []string{"", "\x01" + strings.Repeat("\x00", (count-1)/8)} {
						want := have == count-len(mask[:min(len(mask), 1)])
						is := asMeant(t, sealedBytes(bytesOf(kind, code, count, len(mask))+mask+p.body))
						// Places of noughts may fill the last byte of a dictionary's, and one step may be that of more.
						more := have < count && (code == api.CodeDict || code == api.CodeFrame && have == 2)
						if is != want && !more {
							t.Errorf("%d, %d: %d cells, the mask %x, and %d values: %v", kind, code, count, mask, have, is)
						}
					}
				}
			}
		}
	}
}

// Bytes of values where all cells are nulls.
func TestValuesOfNone(t *testing.T) {
	for _, kind := range []int{api.Int, api.Text} {
		for _, code := range codesOf(kind) {
			for count := 1; count <= most; count++ {
				p, _ := partsOf(make([]api.Cell, count), kind, code)
				if !asMeant(t, p.sealed()) {
					t.Errorf("%d nulls are none", count)
				}
				for _, behind := range []string{"\x00", "\x01", "\x02", "\x00\x00", "\x00\x02", "\x02\x00", "\x02\x01a", "\x00\x00\x00\x00\x00\x00\x00\x00"} {
					noBlock(t, sealedBytes(p.head+p.mask+p.body+behind))
				}
			}
		}
	}
}

// A block whose bytes are cut off at each place, with and without a sum, and with bytes behind.
func TestCutOff(t *testing.T) {
	for _, kind := range []int{api.Int, api.Text} {
		s := stir(5)
		for _, count := range []int{1, 2, 5, 9, 17} {
			for _, nullOf := range []int{0, 1, 3} {
				for _, newOf := range []int{0, 1, 4} {
					l := s.cells(kind, count, nullOf, newOf)
					for _, code := range codesOf(kind) {
						whole, _ := Put(l, kind, code)
						inner := whole[:len(whole)-4]
						for k := range whole {
							noBlock(t, whole[:k])
							if k > 0 {
								noBlock(t, whole[k:])
							}
						}
						for k := range inner {
							asMeant(t, sealedBytes(inner[:k]))
							asMeant(t, sealedBytes(inner[:k]+inner[k+1:]))
							asMeant(t, sealedBytes(inner[:k]+"\x00"+inner[k:]))
						}
						for _, behind := range []string{"\x00", "\x01", "\x80", "\xff", "\x00\x02", "\x00\x00\x00\x00", whole} {
							noBlock(t, whole+behind)
							noBlock(t, sealedBytes(inner+behind))
							noBlock(t, behind+whole)
						}
						noBlock(t, inner)
						noBlock(t, sealedBytes(whole))
					}
				}
			}
		}
	}
}

func TestPackedBits(t *testing.T) {
	packed := func(count, width int, words ...int) string {
		return sealedBytes(bytesOf(1, 5, count, 0, width) + bitsOf(words, width))
	}
	for width := range 256 {
		// By fewer bits it is fewer of each that are put, and these need them.
		if is := asMeant(t, packed(3, width, 5, 2, 7)); is != (width <= 3) {
			t.Errorf("5, 2, 7 of %d bits: %v", width, is)
		}
		if is := asMeant(t, packed(2, width, 0, 0)); is != (width == 0) {
			t.Errorf("0, 0 of %d bits: %v", width, is)
		}
		if is := asMeant(t, packed(1, width, -1)); is != (width <= 64) {
			t.Errorf("all of %d bits: %v", width, is)
		}
		// Nulls alone have a byte 0.
		if is := asMeant(t, sealedBytes(bytesOf(1, 5, 2, 1, 3, width))); is != (width == 0) {
			t.Errorf("none of %d bits: %v", width, is)
		}
	}
	noBlock(t, sealedBytes("\x01\x05\x01\x00"))
	noBlock(t, sealedBytes("\x01\x05\x01\x01\x01"))
	noBlock(t, sealedBytes("\x01\x05\x40\x00"))
	noBlock(t, sealedBytes("\x01\x05\x01\x00\x03\x0d")) // a filling bit
	asMeant(t, sealedBytes("\x01\x05\x01\x00\x03\x05"))
}

func TestTextRuns(t *testing.T) {
	head := func(count int) string { return bytesOf(2, 2, count, 0) }
	for _, c := range []struct {
		s  string
		is bool
	}{
		{head(3) + groups(2) + counted("a", "b") + groups(1, 1, 0, 2), true}, // b, a, a
		{head(3) + groups(1) + counted("a") + groups(0, 3), true},
		{head(3) + groups(1) + counted("") + groups(0, 3), true},
		{head(1) + groups(1) + counted(strings.Repeat("x", 32)) + groups(0, 1), true},
		{head(1) + groups(1) + counted(strings.Repeat("x", 33)) + groups(0, 1), false},
		{head(3) + groups(0) + groups(0, 3), false}, // a dictionary of none
		{head(3) + groups(0), false},
		{head(3), false},
		{head(3) + groups(-1) + groups(0, 3), false},
		{head(3) + groups(-2) + counted("a", "b") + groups(1, 1, 0, 2), false},
		{head(3) + groups(math.MinInt), false},
		{head(3) + groups(math.MaxInt) + counted("a", "b") + groups(1, 1, 0, 2), false},
		{head(2) + groups(3) + counted("a", "b", "c") + groups(0, 1, 1, 1), false}, // more texts than values
		{head(2) + groups(3) + counted("a", "b", "c") + groups(0, 1, 2, 1), false},
		{head(3) + groups(2) + counted("b", "a") + groups(0, 1, 1, 2), false},      // not in order
		{head(3) + groups(2) + counted("a", "a") + groups(0, 1, 1, 2), false},      // one twice
		{head(3) + groups(2) + counted("", "") + groups(0, 1, 1, 2), false},        //
		{head(3) + groups(2) + counted("a", "b") + groups(0, 3), false},            // one that no place names
		{head(3) + groups(2) + counted("a", "b") + groups(1, 3), false},            //
		{head(3) + groups(3) + counted("a", "b", "c") + groups(0, 1, 2, 2), false}, //
		{head(3) + groups(2) + counted("a", "b") + groups(0, 1, 2, 2), false},      // places beyond
		{head(3) + groups(1) + counted("a") + groups(1, 3), false},
		{head(3) + groups(1) + counted("a") + groups(-1, 3), false},
		{head(3) + groups(1) + counted("a") + groups(math.MinInt, 3), false},
		{head(3) + groups(1) + counted("a") + groups(math.MaxInt, 3), false},
		{head(3) + groups(2) + counted("a", "b") + groups(1, 1, 0, 1), false}, // fewer, more
		{head(3) + groups(2) + counted("a", "b") + groups(1, 1, 0, 3), false},
		{head(3) + groups(2) + counted("a", "b") + groups(1, 1, 0, 1, 0, 1), false}, // runs that may not be
		{head(3) + groups(2) + counted("a", "b") + groups(1, 1, 0, 2, 1, 0), false},
		{head(3) + groups(2) + counted("a", "b") + groups(1, 2, 0, 2, 1, -1), false},
		{head(3) + groups(2) + counted("a", "b") + groups(1, 1, 0), false},
		{head(3) + groups(2) + counted("a", "b") + "\x82\x00" + groups(1, 0, 2), false}, // numbers of more bytes
		{head(3) + groups(2) + counted("a", "b") + groups(1, 1, 0) + "\x84\x00", false},
		{head(3) + "\x84\x00" + counted("a", "b") + groups(1, 1, 0, 2), false},
		{head(3) + "\x82\x80\x00" + counted("a") + groups(0, 3), false},
		{head(3) + groups(2) + "\x01a\x05b", false}, // a text that is cut off
		{head(3) + groups(2) + "\x01a", false},
		{head(3) + groups(2) + "\x01a\xff", false},
		{head(3) + groups(2), false},
		{bytesOf(2, 2, 2, 1, 3), true}, // nulls alone
		{bytesOf(2, 2, 2, 1, 3) + groups(0), false},
		{bytesOf(2, 2, 2, 1, 3) + groups(1) + counted("a"), false},
		{bytesOf(2, 2, 2, 1, 3) + groups(1) + counted("a") + groups(0, 0), false},
	} {
		if is := asMeant(t, sealedBytes(c.s)); is != c.is {
			t.Errorf("%x, sealed: %v, not %v", c.s, is, c.is)
		}
	}
}

func TestOtherBodies(t *testing.T) {
	for _, c := range []struct {
		s  string
		is bool
	}{
		{bytesOf(1, 2, 3, 0) + groups(7, 2, 3, 1), true}, // runs
		{bytesOf(1, 2, 3, 0) + groups(7, 2, 7, 1), false},
		{bytesOf(1, 2, 3, 0) + groups(7, 3, 3, 0), false},
		{bytesOf(1, 2, 3, 0) + groups(7, 0, 3, 3), false},
		{bytesOf(1, 2, 3, 0) + groups(7, 4, 3, -1), false},
		{bytesOf(1, 2, 3, 0) + groups(7, math.MaxInt, 3, 1), false},
		{bytesOf(1, 2, 3, 0) + groups(7, 3, 3), false},
		{bytesOf(1, 2, 3, 0) + "\x8e\x00" + groups(3), false},
		{bytesOf(1, 2, 3, 0) + groups(7) + "\x86\x00", false},
		{bytesOf(1, 3, 3, 0) + groups(5, 0) + "\x01\x02", true}, // steps
		{bytesOf(1, 3, 3, 0) + groups(5, 0) + "\x02\x04", false},
		{bytesOf(1, 3, 3, 0) + groups(5, -1) + "\x02\x09", false},
		{bytesOf(1, 3, 3, 0) + "\x8a\x00" + groups(0) + "\x01\x02", false},
		{bytesOf(1, 3, 1, 0) + groups(5, 0), false},
		{bytesOf(1, 3, 1, 0) + "\x8a\x00", false},
		{bytesOf(1, 3, 3, 0) + groups(5, 0) + "\x41", false},
		{bytesOf(1, 4, 3, 0) + groups(2, -1, 5) + "\x05", true}, // a dictionary
		{bytesOf(1, 4, 3, 0) + groups(2, 5, -1) + "\x05", false},
		{bytesOf(1, 4, 3, 0) + groups(2, 5, 5) + "\x05", false},
		{bytesOf(1, 4, 3, 0) + groups(2, -1, 5) + "\x00", false},
		{bytesOf(1, 4, 3, 0) + groups(2, -1, 5) + "\x0d", false},
		{bytesOf(1, 4, 3, 0) + groups(0), false},
		{bytesOf(1, 4, 3, 0) + groups(2, -1) + "\x8a\x00\x05", false},
		{bytesOf(1, 4, 3, 0) + "\x84\x00" + groups(-1, 5) + "\x05", false},
		{bytesOf(1, 4, 1, 0) + groups(2, 1, 2) + "\x00", false},
		{bytesOf(2, 4, 3, 0) + groups(2) + counted("a", "b") + "\x05", true},
		{bytesOf(2, 4, 3, 0) + groups(2) + counted("b", "a") + "\x05", false},
		{bytesOf(2, 4, 3, 0) + groups(2) + counted("a", "b") + "\x07", false},
		{bytesOf(2, 4, 3, 0) + groups(0), false},
		{bytesOf(2, 1, 2, 0) + counted("a", ""), true}, // texts
		{bytesOf(2, 1, 2, 0) + counted("a", strings.Repeat("x", 32)), true},
		{bytesOf(2, 1, 2, 0) + counted("a", strings.Repeat("x", 33)), false},
		{bytesOf(2, 1, 2, 0) + counted("a", "b", "c"), false},
		{bytesOf(2, 1, 2, 0) + counted("a"), false},
		{bytesOf(2, 3, 2, 0) + groups(5, 0) + "\x00", false}, // codes that are none for texts
		{bytesOf(2, 5, 2, 0) + "\x00", false},
		{bytesOf(2, 3, 2, 1, 3), false},
		{bytesOf(2, 5, 2, 1, 3), false},
		{bytesOf(2, 5, 2, 1, 3, 0), false},
	} {
		if is := asMeant(t, sealedBytes(c.s)); is != c.is {
			t.Errorf("%x, sealed: %v, not %v", c.s, is, c.is)
		}
	}
}

// All bodies of up to two bytes, of one to three cells.
func TestAnyShortBody(t *testing.T) {
	blocks := 0
	for _, head := range []string{"\x01\x00", "\x02\x00", "\x03\x00", "\x03\x01\x02"} {
		for kind := api.Int; kind <= api.Text; kind++ {
			for _, code := range codesOf(kind) {
				first := bytesOf(kind, code) + head
				asMeant(t, sealedBytes(first))
				for a := range 256 {
					asMeant(t, sealedBytes(first+bytesOf(a)))
					for b := range 256 {
						s := sealedBytes(first + bytesOf(a, b))
						_, _, ok := told(s)
						if _, e := Take(s); ok != (e == api.OK) || !ok && e != api.ErrCorrupt {
							t.Fatalf("Take(%x): %d, and it is a block: %v", s, e, ok)
						}
						if ok {
							blocks++
							asMeant(t, s)
						}
					}
				}
			}
		}
	}
	if blocks < 10000 {
		t.Errorf("%d alone are blocks", blocks)
	}
}

// Blocks of which one byte is another one, with the sum that they must have.
func TestChangedBytes(t *testing.T) {
	blocks := 0
	for _, kind := range []int{api.Int, api.Text} {
		s := stir(6)
		for _, count := range []int{1, 3, 9, 12} {
			for _, nullOf := range []int{0, 3} {
				for _, newOf := range []int{0, 1, 3} {
					l := s.cells(kind, count, nullOf, newOf)
					for _, code := range codesOf(kind) {
						p, _ := partsOf(l, kind, code)
						inner := []byte(p.head + p.mask + p.body)
						for k, was := range inner[:min(len(inner), 60)] {
							for turn := 1; turn < 256; turn += 1 + s.below(15) {
								inner[k] = was ^ byte(turn)
								if asMeant(t, sealedBytes(string(inner))) {
									blocks++
								}
							}
							inner[k] = was
						}
					}
				}
			}
		}
	}
	if blocks < 1000 {
		t.Errorf("%d alone are blocks", blocks)
	}
}

func TestLookCountsNulls(t *testing.T) {
	for _, kind := range []int{api.Int, api.Text} {
		for _, code := range codesOf(kind) {
			for count := 1; count <= most; count++ {
				for nulls := range count + 1 {
					l := slices.Repeat([]api.Cell{one(kind)}, count)
					clear(l[count-nulls:])
					s, _ := Put(l, kind, code)
					if head, e := Look(s); head != (api.Head{Kind: kind, Code: code, Count: count, Nulls: nulls}) || e != api.OK {
						t.Errorf("Look(%x): %v, %d, of %d nulls", s, head, e, nulls)
					}
				}
			}
		}
	}
}

func TestBodies(t *testing.T) {
	for _, c := range []struct {
		l          []api.Cell
		kind, code int
		body, mask string
	}{
		{numbers(7, 7, 3), api.Int, api.CodeRuns, "\x0e\x04\x06\x02", ""},
		{[]api.Cell{number(7), {}, number(7), number(3)}, api.Int, api.CodeRuns, "\x0e\x04\x06\x02", "\x02"},
		{numbers(5, 6, 7, 8), api.Int, api.CodeFrame, "\x0a\x02\x00", ""},
		{numbers(258), api.Int, api.CodePlain, "\x02\x01\x00\x00\x00\x00\x00\x00", ""},
		{numbers(5, 2, 7), api.Int, api.CodePack, "\x03\xd5\x01", ""},
		{append(numbers(5, 2, 7, 0, 0, 0, 0, 0), api.Cell{}), api.Int, api.CodePack, "\x03\xd5\x01\x00", "\x00\x01"},
		{texts("b", "a", "b"), api.Text, api.CodeDict, "\x04\x01a\x01b\x05", ""},
		{append(texts("b", "a", "b"), api.Cell{}), api.Text, api.CodeDict, "\x04\x01a\x01b\x05", "\x08"},
		{texts("b", "a", "b"), api.Text, api.CodeRuns, "\x04\x01a\x01b\x02\x02\x00\x02\x02\x02", ""},
		{texts("ab", ""), api.Text, api.CodePlain, "\x02ab\x00", ""},
		{make([]api.Cell, 9), api.Int, api.CodePlain, "", "\xff\x01"},
		{make([]api.Cell, 9), api.Int, api.CodePack, "\x00", "\xff\x01"},
		{make([]api.Cell, most), api.Text, api.CodeRuns, "", "\xff\xff\xff\xff\xff\xff\xff\xff"},
	} {
		s, e := Put(c.l, c.kind, c.code)
		body, mask, f := Body(s)
		if body != c.body || mask != c.mask || e != api.OK || f != api.OK {
			t.Errorf("Body of %v, %d: %x, %x, %d, %d, not %x, %x", c.l, c.code, body, mask, e, f, c.body, c.mask)
		}
	}
}

// Bl3

// turned are bytes of which some bits, from one on, are turned as a word tells.
func turned(s string, at int, word uint32) string {
	b := []byte(s)
	for bit := range 32 {
		if word>>bit&1 == 1 && at+bit < len(b)*8 {
			b[(at+bit)/8] ^= 1 << ((at + bit) % 8)
		}
	}
	return string(b)
}

func TestTurnedBits(t *testing.T) {
	s := stir(7)
	for _, kind := range []int{api.Int, api.Text} {
		for _, l := range [][]api.Cell{{one(kind)}, {{}}, {one(kind), {}, one(kind)}, s.cells(kind, 9, 3, 2), s.cells(kind, 20, 0, 4)} {
			for _, code := range codesOf(kind) {
				whole, _ := Put(l, kind, code)
				for at := range len(whole) * 8 {
					noBlock(t, turned(whole, at, 1))
					for more := 1; more < 32; more++ {
						noBlock(t, turned(whole, at, 1|1<<more))
						noBlock(t, turned(whole, at, 1<<more-1))
					}
					noBlock(t, turned(whole, at, math.MaxUint32))
					for range 8 {
						noBlock(t, turned(whole, at, 1|uint32(s.next()>>16)))
					}
				}
			}
		}
	}
}

// The best is never longer than any other one, the plain one among them, and taken as it was.
func TestBestIsNeverLonger(t *testing.T) {
	for _, kind := range []int{api.Int, api.Text} {
		for seed := range 4 {
			for _, l := range lists(kind, 20+seed) {
				best, code, e := Best(l, kind)
				got, f := Take(best)
				if e != api.OK || f != api.OK || !slices.Equal(got, l) {
					t.Errorf("Best(%v..), taken: %v.., %d, %d", short(l), short(got), e, f)
				}
				for _, other := range codesOf(kind) {
					s, _ := Put(l, kind, other)
					if len(s) < len(best) || len(s) == len(best) && other < code || other == code && s != best {
						t.Errorf("Best(%d: %v..): %d bytes by %d, and %d by %d", len(l), short(l), len(best), code, len(s), other)
					}
				}
			}
		}
	}
}
