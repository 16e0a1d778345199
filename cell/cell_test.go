package cell

import (
	"bytes"
	"encoding/binary"
	"math"
	"math/big"
	"peristyle/api"
	"peristyle/vint"
	"slices"
	"strings"
	"testing"
)

// of is a cell of any Kind, with any N and S.
func of(kind, n int, s string) api.Cell { return api.Cell{Kind: kind, N: n, S: s} }

// num is a number's cell.
func num(n int) api.Cell { return of(1, n, "") }

// txt is a text's cell.
func txt(s string) api.Cell { return of(2, 0, s) }

// xs is a text of so many bytes.
func xs(count int) string { return strings.Repeat("x", count) }

var (
	someKinds   = []int{math.MinInt, -257, -256, -2, -1, 0, 1, 2, 3, 4, 255, 256, 257, 258, 1 << 32, 1<<32 + 1, math.MaxInt}
	someNumbers = []int{math.MinInt, math.MinInt + 1, -1 << 32, -8193, -300, -65, -64, -5, -1, 0, 1, 7, 63, 64, 300, 8192, 1 << 32, math.MaxInt - 1, math.MaxInt}
	someTexts   = []string{"", "\x00", "\x00\x00", "'", "''", "'a'", "0", "A", "a", "a\x00", "aa", "ab", "b", "null", "it's", "\x7f", "\x80", "\x80a", "\xc3\xa4", "\xff", "\xff\xff", strings.Repeat("'", 32), xs(31), xs(32), xs(33), xs(31) + "y", strings.Repeat("\xff", 32), strings.Repeat("'", 33), xs(255), xs(256), xs(258)}
)

// cellsThatMayBe are the null, and cells of someNumbers and of those of someTexts that are not too long.
func cellsThatMayBe() []api.Cell {
	l := []api.Cell{{}}
	for _, n := range someNumbers {
		l = append(l, num(n))
	}
	for _, s := range someTexts {
		if len(s) <= 32 {
			l = append(l, txt(s))
		}
	}
	return l
}

// cellsThatMayNotBe are cells of no Kind, with what their Kind gives no meaning, and with texts that are too long.
func cellsThatMayNotBe() []api.Cell {
	var l []api.Cell
	for _, kind := range someKinds {
		if kind < 0 || kind > 2 {
			l = append(l, of(kind, 0, ""), of(kind, 5, ""), of(kind, -5, ""), of(kind, 0, "a"), of(kind, 5, "a"), of(kind, 0, xs(33)))
		}
	}
	for _, n := range someNumbers {
		if n != 0 {
			l = append(l, of(0, n, ""), of(0, n, "a"), of(2, n, ""), of(2, n, "a"), of(2, n, xs(32)), of(2, n, xs(33)))
		}
	}
	for _, s := range someTexts {
		if s != "" {
			l = append(l, of(0, 0, s), of(1, 0, s), of(1, -1, s), of(1, math.MaxInt, s))
		}
		if len(s) > 32 {
			l = append(l, txt(s))
		}
	}
	return l
}

// allCells are those that may be, and those that may not.
func allCells() []api.Cell { return append(cellsThatMayBe(), cellsThatMayNotBe()...) }

// stirrer gives numbers by a fixed rule.
type stirrer struct{ word uint64 }

func stir(seed int) *stirrer { return &stirrer{uint64(seed)*2 + 1} }

func (s *stirrer) below(n int) int {
	s.word = s.word*6364136223846793005 + 1442695040888963407
	return int(s.word >> 33 % uint64(n))
}

// row is some of the cells, so many.
func (s *stirrer) row(l []api.Cell, count int) api.Row {
	r := make(api.Row, count)
	for k := range r {
		r[k] = l[s.below(len(l))]
	}
	return r
}

// Ce1: Check

func TestCheck(t *testing.T) {
	for _, c := range cellsThatMayBe() {
		if got := Check(c); got != api.OK {
			t.Errorf("Check(%v): %d, not OK", c, got)
		}
	}
	for _, c := range cellsThatMayNotBe() {
		if got := Check(c); got != api.ErrArg {
			t.Errorf("Check(%v): %d, not ErrArg", c, got)
		}
	}
}

// Each Kind with each number and each text, against the chapter's words, one by one.
func TestCheckOfEachKindNumberAndText(t *testing.T) {
	for _, kind := range someKinds {
		for _, n := range someNumbers {
			for _, s := range someTexts {
				may := kind == api.Null && n == 0 && s == "" || kind == api.Int && s == "" || kind == api.Text && n == 0 && len(s) < 33
				if got := Check(of(kind, n, s)); (got == api.OK) != may || !may && got != api.ErrArg {
					t.Errorf("Check(%v): %d; it may be: %t", of(kind, n, s), got, may)
				}
			}
		}
	}
}

func TestCheckOfTextsOfEachLength(t *testing.T) {
	for count := range 600 {
		want := api.OK
		if count > 32 {
			want = api.ErrArg
		}
		for _, s := range []string{xs(count), strings.Repeat("\xff", count), strings.Repeat("'", count), strings.Repeat("\x00", count)} {
			if got := Check(txt(s)); got != want {
				t.Errorf("Check of %d bytes: %d, not %d", count, got, want)
			}
		}
	}
}

// Ce1: Compare

// sign is -1, 0 or 1.
func sign(n int) int { return min(max(n, -1), 1) }

// inOrder fails if a list's cells do not stand one behind the other, by Compare of each two.
func inOrder(t *testing.T, l []api.Cell) {
	t.Helper()
	for i := range l {
		for k := range l {
			if got := Compare(l[i], l[k]); got != sign(i-k) {
				t.Errorf("Compare(%v, %v): %d, not %d", l[i], l[k], got, sign(i-k))
			}
		}
	}
}

func TestCompare(t *testing.T) {
	inOrder(t, []api.Cell{{}, num(0), txt("")}) // the chapter's example
	inOrder(t, []api.Cell{
		{}, num(math.MinInt), num(math.MinInt + 1), num(-1 << 32), num(-256), num(-10), num(-9), num(-1), num(0), num(1), num(2), num(10), num(255), num(256), num(1 << 32), num(math.MaxInt - 1), num(math.MaxInt),
		txt(""), txt("\x00"), txt("\x00\x00"), txt("\x00a"), txt("\x01"), txt("'"), txt("-1"), txt("0"), txt("10"), txt("9"), txt("A"), txt("Z"), txt("a"), txt("a\x00"), txt("aa"), txt("aab"), txt("ab"), txt("b"), txt("null"),
		txt(xs(31)), txt(xs(32)), txt(xs(31) + "y"), txt("y"), txt("\x7f"), txt("\x7f\xff"), txt("\x80"), txt("\x80\x00"), txt("\xc2\x80"), txt("\xc3\xa4"), txt("\xe2\x82\xac"), txt("\xfe\xff"), txt("\xff"), txt("\xff\x00"), txt("\xff\xff"), txt(strings.Repeat("\xff", 32)),
	})
}

// Cells that may not be stand by Kind, then N, then S; beside those that may be, too.
func TestCompareOfCellsThatMayNotBe(t *testing.T) {
	inOrder(t, []api.Cell{
		of(math.MinInt, 0, ""), of(-257, 0, ""), of(-1, -1, "b"), of(-1, 0, ""), of(-1, 0, "a"), of(-1, 5, ""),
		of(0, math.MinInt, "z"), of(0, -1, ""), of(0, -1, "a"), {}, of(0, 0, "a"), of(0, 0, "b"), of(0, 1, ""), of(0, math.MaxInt, ""),
		of(1, math.MinInt, ""), of(1, math.MinInt, "a"), num(-1), of(1, -1, "\x00"), of(1, -1, "z"), num(0), of(1, 0, "a"), num(7), of(1, 7, ""+xs(33)), num(8),
		of(2, math.MinInt, "z"), of(2, -1, "z"), txt(""), txt("a"), txt("b"), txt(xs(32)), txt(xs(33)), txt(xs(34)), txt(xs(33) + "y"), txt("\xff"), of(2, 1, ""), of(2, 1, "a"), of(2, 2, ""),
		of(3, -5, "z"), of(3, 0, ""), of(3, 0, "a"), of(3, 0, "aa"), of(3, 0, "b"), of(3, 5, ""), of(4, -5, ""), of(255, 0, ""), of(256, 0, ""), of(257, 0, ""), of(1<<32+1, 0, ""), of(math.MaxInt, 0, ""),
	})
}

// standing is where a cell stands, as bytes that stand as the cells do: Kind, and N, their highest byte first, the least number as noughts; and S.
func standing(c api.Cell) []byte {
	s := binary.BigEndian.AppendUint64(nil, uint64(c.Kind)+1<<63)
	s = binary.BigEndian.AppendUint64(s, uint64(c.N)+1<<63)
	return append(s, c.S...)
}

func TestCompareByBytes(t *testing.T) {
	l := allCells()
	for _, a := range l {
		for _, b := range l {
			if got, want := Compare(a, b), bytes.Compare(standing(a), standing(b)); got != want {
				t.Errorf("Compare(%v, %v): %d, not %d", a, b, got, want)
			}
		}
	}
}

// Ce1: CompareRows

func up(col int) api.Sort { return api.Sort{Col: col} }

func down(col int) api.Sort { return api.Sort{Col: col, Down: true} }

func TestCompareRows(t *testing.T) {
	for _, c := range []struct {
		a, b api.Row
		by   []api.Sort
		want int
	}{
		{api.Row{num(1)}, api.Row{num(2)}, nil, 0},
		{api.Row{num(1)}, api.Row{num(2)}, []api.Sort{}, 0},
		{nil, nil, nil, 0},
		{nil, api.Row{}, []api.Sort{up(0), down(1)}, 0},
		{api.Row{num(1)}, api.Row{num(2)}, []api.Sort{up(0)}, -1},
		{api.Row{num(2)}, api.Row{num(1)}, []api.Sort{up(0)}, 1},
		{api.Row{num(1)}, api.Row{num(1)}, []api.Sort{up(0)}, 0},
		{api.Row{num(1)}, api.Row{num(2)}, []api.Sort{down(0)}, 1},
		{api.Row{num(2)}, api.Row{num(1)}, []api.Sort{down(0)}, -1},
		{api.Row{num(1)}, api.Row{num(1)}, []api.Sort{down(0)}, 0},
		{api.Row{num(math.MinInt)}, api.Row{num(math.MaxInt)}, []api.Sort{down(0)}, 1},
		{api.Row{{}}, api.Row{num(math.MinInt)}, []api.Sort{down(0)}, 1},
		{api.Row{num(1), txt("b")}, api.Row{num(1), txt("a")}, []api.Sort{up(0)}, 0},
		{api.Row{num(1), txt("b")}, api.Row{num(1), txt("a")}, []api.Sort{up(0), up(1)}, 1},
		{api.Row{num(1), txt("b")}, api.Row{num(1), txt("a")}, []api.Sort{up(0), down(1)}, -1},
		{api.Row{num(1), txt("b")}, api.Row{num(1), txt("a")}, []api.Sort{down(0), up(1)}, 1},
		{api.Row{num(1), txt("a")}, api.Row{num(2), txt("b")}, []api.Sort{up(1), down(0)}, -1},
		{api.Row{num(1), txt("b")}, api.Row{num(2), txt("a")}, []api.Sort{up(0), up(1)}, -1},
		{api.Row{num(1), txt("b")}, api.Row{num(2), txt("a")}, []api.Sort{up(1), up(0)}, 1},
		{api.Row{num(1), txt("b")}, api.Row{num(2), txt("a")}, []api.Sort{up(0), down(0)}, -1},
		{api.Row{num(1), txt("b")}, api.Row{num(2), txt("a")}, []api.Sort{down(0), up(0)}, 1},
		{api.Row{num(1), num(5)}, api.Row{num(1), num(6)}, []api.Sort{up(0), up(0), down(0), up(1)}, -1},
	} {
		if got := CompareRows(c.a, c.b, c.by); got != c.want {
			t.Errorf("CompareRows(%v, %v, %v): %d, not %d", c.a, c.b, c.by, got, c.want)
		}
	}
}

// A column that a row does not have, below 0 too, counts as a null.
func TestCompareRowsByColumnsThatAreNone(t *testing.T) {
	for _, col := range []int{math.MinInt, -256, -2, -1, 2, 3, 256, 1 << 32, math.MaxInt} {
		a, b := api.Row{num(1), txt("a")}, api.Row{num(2), txt("b")}
		for _, sort := range []api.Sort{up(col), down(col)} {
			if got := CompareRows(a, b, []api.Sort{sort}); got != 0 {
				t.Errorf("by %v, that no row has: %d", sort, got)
			}
			if got := CompareRows(a, b, []api.Sort{sort, up(0)}); got != -1 {
				t.Errorf("by %v, that no row has, and 0: %d", sort, got)
			}
		}
	}
	short, long := api.Row{num(1)}, api.Row{num(1), num(math.MinInt)}
	for _, c := range []struct {
		a, b api.Row
		sort api.Sort
		want int
	}{
		{short, long, up(1), -1}, {long, short, up(1), 1}, {short, long, down(1), 1}, {long, short, down(1), -1},
		{nil, short, up(0), -1}, {short, nil, up(0), 1}, {nil, short, down(0), 1},
		{short, api.Row{num(1), {}}, up(1), 0}, {api.Row{num(1), {}}, short, down(1), 0}, {nil, api.Row{{}}, up(0), 0},
		{short, api.Row{num(1), of(-1, 0, "")}, up(1), 1}, {short, api.Row{num(1), of(0, -1, "")}, up(1), 1}, {short, api.Row{num(1), of(0, 1, "")}, up(1), -1},
	} {
		if got := CompareRows(c.a, c.b, []api.Sort{c.sort}); got != c.want {
			t.Errorf("CompareRows(%v, %v, %v): %d, not %d", c.a, c.b, c.sort, got, c.want)
		}
	}
}

// rowsByBytes is CompareRows once more, from the last column of by to the first.
func rowsByBytes(a, b api.Row, by []api.Sort) int {
	if len(by) == 0 {
		return 0
	}
	var cells [2]api.Cell
	for k, r := range []api.Row{a, b} {
		for col, c := range r {
			if col == by[0].Col {
				cells[k] = c
			}
		}
	}
	order := bytes.Compare(standing(cells[0]), standing(cells[1]))
	if by[0].Down {
		order = -order
	}
	if order == 0 {
		return rowsByBytes(a, b, by[1:])
	}
	return order
}

func TestCompareRowsByBytes(t *testing.T) {
	s := stir(1)
	few := []api.Cell{{}, num(-1), num(0), num(1), txt(""), txt("a"), txt("ab"), of(0, 1, ""), of(3, 0, "")}
	for range 50000 {
		a, b := s.row(few, s.below(5)), s.row(few, s.below(5))
		if s.below(2) == 0 {
			copy(b, a[:s.below(len(a)+1)])
		}
		by := make([]api.Sort, s.below(5))
		for k := range by {
			by[k] = api.Sort{Col: s.below(7) - 1, Down: s.below(2) == 0}
		}
		got, back := CompareRows(a, b, by), CompareRows(b, a, by)
		if want := rowsByBytes(a, b, by); got != want || back != -want {
			t.Fatalf("CompareRows(%v, %v, %v): %d, and the other way round %d, not %d", a, b, by, got, back, want)
		}
	}
}

// Ce2: Put and Take

// rowsAndBytes are rows whose bytes the tests write out.
var rowsAndBytes = []struct {
	r     api.Row
	bytes string
}{
	{nil, "\x00"},
	{api.Row{}, "\x00"},
	{api.Row{{}}, "\x01\x00"},
	{api.Row{{}, {}, {}}, "\x03\x00\x00\x00"},
	{api.Row{of(1, 0, "")}, "\x01\x01\x00"},
	{api.Row{of(1, -1, "")}, "\x01\x01\x01"},
	{api.Row{of(1, 64, "")}, "\x01\x01\x80\x01"},
	{api.Row{of(1, math.MaxInt, "")}, "\x01\x01\xfe\xff\xff\xff\xff\xff\xff\xff\xff\x01"},
	{api.Row{of(1, math.MinInt, "")}, "\x01\x01\xff\xff\xff\xff\xff\xff\xff\xff\xff\x01"},
	{api.Row{of(2, 0, "")}, "\x01\x02\x00"},
	{api.Row{of(2, 0, "a")}, "\x01\x02\x01a"},
	{api.Row{of(2, 0, "it's")}, "\x01\x02\x04it's"},
	{api.Row{of(2, 0, "\x00\xff\x80")}, "\x01\x02\x03\x00\xff\x80"},
	{api.Row{of(2, 0, "xxxxxxxxxxxxxxxxxxxxxxxxxxxxxxxx")}, "\x01\x02\x20xxxxxxxxxxxxxxxxxxxxxxxxxxxxxxxx"},
	{api.Row{of(1, 64, ""), of(2, 0, "a"), {}}, "\x03\x01\x80\x01\x02\x01a\x00"},
	{api.Row{of(2, 0, "\x01"), of(1, 1, ""), of(2, 0, ""), {}, of(1, -300, "")}, "\x05\x02\x01\x01\x01\x02\x02\x00\x00\x01\xd7\x04"},
}

// puts fails if Put answers other bytes.
func puts(t *testing.T, r api.Row, want string) {
	t.Helper()
	if got, errno := Put(r); got != want || errno != api.OK {
		t.Errorf("Put(%v): %x, %d, not %x", r, got, errno, want)
	}
}

// takes fails if Take answers another row, or another number of bytes.
func takes(t *testing.T, s string, want api.Row, used int) {
	t.Helper()
	if got, bytes, errno := Take(s); !slices.Equal(got, want) || bytes != used || errno != api.OK {
		t.Errorf("Take(%x): %v, %d, %d, not %v, %d", s, got, bytes, errno, want, used)
	}
}

// takesNot fails if Take does not answer ErrForm, and nothing beside.
func takesNot(t *testing.T, s string) {
	t.Helper()
	if got, bytes, errno := Take(s); len(got) != 0 || bytes != 0 || errno != api.ErrForm {
		t.Errorf("Take(%x): %v, %d, %d, not ErrForm alone", s, got, bytes, errno)
	}
}

func TestPutAndTake(t *testing.T) {
	for _, c := range rowsAndBytes {
		puts(t, c.r, c.bytes)
		takes(t, c.bytes, c.r, len(c.bytes))
	}
}

// bytesOf are a row's bytes once more, by the chapter's words.
func bytesOf(r api.Row) string {
	var b strings.Builder
	b.WriteByte(byte(len(r)))
	for _, c := range r {
		b.WriteByte("\x00\x01\x02"[c.Kind])
		if c.Kind == 1 {
			b.WriteString(vint.Put(c.N))
		}
		if c.Kind == 2 {
			b.WriteString(string([]byte{byte(len(c.S))}) + c.S)
		}
	}
	return b.String()
}

func TestPutOfRowsOfEachLength(t *testing.T) {
	for _, c := range []api.Cell{{}, num(0), num(math.MinInt), txt(""), txt(xs(32))} {
		for count := range 256 {
			r := slices.Repeat(api.Row{c}, count)
			s := bytesOf(r)
			puts(t, r, s)
			takes(t, s, r, len(s))
		}
		for _, count := range []int{256, 257, 511, 512, 513, 1 << 16} {
			if s, errno := Put(slices.Repeat(api.Row{c}, count)); s != "" || errno != api.ErrArg {
				t.Errorf("Put of %d cells: %d bytes, %d", count, len(s), errno)
			}
		}
	}
}

// One cell that may not be, at the head, in the midst or at the end of a row, is enough.
func TestPutOfCellsThatMayNotBe(t *testing.T) {
	for _, c := range cellsThatMayNotBe() {
		for _, r := range []api.Row{{c}, {c, num(1)}, {num(1), c}, {{}, c, txt("a")}, append(make(api.Row, 254), c), append(make(api.Row, 255), c), append(api.Row{c}, make(api.Row, 254)...)} {
			if s, errno := Put(r); s != "" || errno != api.ErrArg {
				t.Errorf("Put of %d cells, with %v: %x, %d", len(r), c, s, errno)
			}
		}
	}
}

// A row's bytes that are cut off, at each place, are none; with bytes behind them they are the same.
func TestTakeOfBytesThatAreCutOff(t *testing.T) {
	rows := []api.Row{cellsThatMayBe(), slices.Repeat(api.Row{num(math.MinInt), txt(xs(32)), {}}, 85)}
	for _, c := range rowsAndBytes {
		rows = append(rows, c.r)
	}
	for _, r := range rows {
		s := bytesOf(r)
		for k := range len(s) {
			takesNot(t, s[:k])
		}
		for _, behind := range []string{"\x00", "\x01", "\x02", "\x03", "\x80", "\xff", "a", s, xs(300)} {
			takes(t, s+behind, r, len(s))
		}
	}
}

func TestTakeOfWrongBytes(t *testing.T) {
	nine := strings.Repeat("\x80", 9)
	for _, s := range []string{
		"", "\x01", "\x02", "\xff", "\x02\x00", "\xff" + strings.Repeat("\x00", 254),
		// Kinds that are none
		"\x01\x03", "\x01\x04", "\x01\x7f", "\x01\x80", "\x01\x81", "\x01\xff", "\x01\x03\x00", "\x01\x03\x01a", "\x02\x00\x03\x00", "\x02\x03\x00\x00",
		// numbers that are none
		"\x01\x01", "\x01\x01\x80", "\x01\x01\x80\x00", "\x01\x01\x81\x00\x00", "\x01\x01" + nine, "\x01\x01" + nine + "\x00", "\x01\x01" + nine + "\x02", "\x01\x01" + nine + "\x80\x01", "\x01\x01" + strings.Repeat("\xff", 10) + "\x01", "\x02\x01\x02\x01\x80\x00",
		// lengths of texts that are none
		"\x01\x02", "\x01\x02\x01", "\x01\x02\x02a", "\x01\x02\x20" + xs(31), "\x01\x02\x21" + xs(33), "\x01\x02\x21" + xs(32), "\x01\x02\x22" + xs(34), "\x01\x02\x80" + xs(128), "\x01\x02\xff" + xs(255), "\x01\x02\x80\x01" + xs(300), "\x02\x00\x02\x21" + xs(40), "\x02\x02\x21" + xs(33) + "\x00",
	} {
		takesNot(t, s)
	}
	for kind := 3; kind < 256; kind++ {
		takesNot(t, "\x01"+string([]byte{byte(kind)})+xs(300))
	}
	for count := 33; count < 256; count++ {
		takesNot(t, "\x01\x02"+string([]byte{byte(count)})+xs(300))
	}
}

// letters are the bytes of which TestTakeOfAnyBytes makes all texts.
const letters = "\x00\x01\x02\x03\x21\x80a"

// each hands on all texts of up to so many letters.
func each(letters string, count int, then func(string)) {
	l := []string{""}
	for range count + 1 {
		var longer []string
		for _, s := range l {
			then(s)
			for k := range len(letters) {
				longer = append(longer, s+letters[k:k+1])
			}
		}
		l = longer
	}
}

// areLetters tells whether each byte is one of letters.
func areLetters(s string) bool {
	for k := range len(s) {
		if strings.IndexByte(letters, s[k]) < 0 {
			return false
		}
	}
	return true
}

// shortRows are, by their bytes, all rows of up to so many bytes (5 at most) that are letters; and others.
func shortRows(count int) map[string]api.Row {
	cells := []api.Cell{{}}
	for n := -1 << 20; n < 1<<20; n++ { // all of up to three bytes
		if areLetters(vint.Put(n)) {
			cells = append(cells, num(n))
		}
	}
	each(letters, count-3, func(s string) { cells = append(cells, txt(s)) })
	rows := map[string]api.Row{"\x00": nil}
	work := []api.Row{nil}
	for len(work) > 0 {
		r := work[0]
		work = work[1:]
		for _, c := range cells {
			longer := append(slices.Clone(r), c)
			if s := bytesOf(longer); len(s) <= count {
				rows[s] = longer
				work = append(work, longer)
			}
		}
	}
	return rows
}

// All texts of some bytes: each begins with the bytes of one row at most, among all that are so short.
func TestTakeOfAnyBytes(t *testing.T) {
	const count = 5
	rows := shortRows(count)
	if len(rows) < 100 {
		t.Fatalf("%d rows alone", len(rows))
	}
	taken := 0
	each(letters, count, func(s string) {
		for k := range len(s) + 1 {
			if r, there := rows[s[:k]]; there {
				takes(t, s, r, k)
				taken++
				return
			}
		}
		takesNot(t, s)
	})
	if taken < len(rows) {
		t.Errorf("%d texts alone were taken, of %d rows", taken, len(rows))
	}
}

// A row's bytes with one of them changed are those of another row that may be put, or none.
func TestTakeOfBytesThatAreChanged(t *testing.T) {
	for _, c := range rowsAndBytes {
		for k := range len(c.bytes) {
			for b := range 256 {
				changed := []byte(c.bytes + "\x00\x00")
				changed[k] = byte(b)
				r, used, errno := Take(string(changed))
				if errno != api.OK {
					takesNot(t, string(changed))
					continue
				}
				if again, errno := Put(r); used > len(changed) || again != string(changed[:used]) || errno != api.OK {
					t.Errorf("Take(%x): %v, whose bytes are %x, %d", changed, r, again, errno)
				}
			}
		}
	}
}

// Ce2: Fits

func TestFits(t *testing.T) {
	number, text := api.Column{Name: "a", Kind: api.Int}, api.Column{Name: "b", Kind: api.Text}
	numberOrNull, textOrNull := api.Column{Name: "c", Kind: api.Int, Null: true}, api.Column{Name: "d", Kind: api.Text, Null: true}
	for _, c := range []struct {
		r       api.Row
		columns []api.Column
		want    api.Errno
	}{
		{nil, nil, api.OK}, {api.Row{}, nil, api.OK}, {nil, []api.Column{}, api.OK},
		{api.Row{num(1)}, []api.Column{number}, api.OK}, {api.Row{num(math.MinInt)}, []api.Column{numberOrNull}, api.OK},
		{api.Row{txt("")}, []api.Column{text}, api.OK}, {api.Row{txt(xs(32))}, []api.Column{textOrNull}, api.OK},
		{api.Row{{}}, []api.Column{numberOrNull}, api.OK}, {api.Row{{}}, []api.Column{textOrNull}, api.OK},
		{api.Row{num(1), txt("a"), {}, {}}, []api.Column{number, text, numberOrNull, textOrNull}, api.OK},
		{api.Row{{}}, []api.Column{number}, api.ErrArg}, {api.Row{{}}, []api.Column{text}, api.ErrArg},
		{api.Row{txt("1")}, []api.Column{number}, api.ErrArg}, {api.Row{txt("")}, []api.Column{numberOrNull}, api.ErrArg},
		{api.Row{num(0)}, []api.Column{text}, api.ErrArg}, {api.Row{num(1)}, []api.Column{textOrNull}, api.ErrArg},
		{api.Row{num(1), txt("a"), {}, num(1)}, []api.Column{number, text, numberOrNull, textOrNull}, api.ErrArg},
		{api.Row{{}, txt("a"), {}, {}}, []api.Column{number, text, numberOrNull, textOrNull}, api.ErrArg},
		{api.Row{num(1), {}, {}, {}}, []api.Column{number, text, numberOrNull, textOrNull}, api.ErrArg},
		{nil, []api.Column{number}, api.ErrArg}, {nil, []api.Column{numberOrNull}, api.ErrArg}, {api.Row{num(1)}, nil, api.ErrArg}, {api.Row{{}}, nil, api.ErrArg},
		{api.Row{num(1)}, []api.Column{number, numberOrNull}, api.ErrArg}, {api.Row{num(1), num(1)}, []api.Column{number}, api.ErrArg}, {api.Row{num(1), {}}, []api.Column{number}, api.ErrArg},
		// Columns of a Kind that none may be, and names that are none: of a column its Kind and Null are asked alone.
		{api.Row{{}}, []api.Column{{Kind: api.Null}}, api.ErrArg}, {api.Row{{}}, []api.Column{{Kind: api.Null, Null: true}}, api.OK},
		{api.Row{{}}, []api.Column{{Kind: 3, Null: true}}, api.OK}, {api.Row{of(3, 0, "")}, []api.Column{{Kind: 3, Null: true}}, api.ErrArg}, {api.Row{of(-1, 0, "")}, []api.Column{{Kind: -1}}, api.ErrArg},
		{api.Row{num(1), num(1)}, []api.Column{{Name: "", Kind: api.Int}, {Name: xs(100), Kind: api.Int}}, api.OK},
		{slices.Repeat(api.Row{num(1)}, 300), slices.Repeat([]api.Column{number}, 300), api.OK},
		{append(slices.Repeat(api.Row{num(1)}, 299), txt("")), slices.Repeat([]api.Column{number}, 300), api.ErrArg},
	} {
		if got := Fits(c.r, c.columns); got != c.want {
			t.Errorf("Fits(%v, %v): %d, not %d", c.r, c.columns, got, c.want)
		}
	}
}

// Each cell in each column, alone and behind, or ahead of, others that fit.
func TestFitsOfEachCell(t *testing.T) {
	for _, kind := range []int{-1, 0, 1, 2, 3, 256} {
		for _, null := range []bool{false, true} {
			column := api.Column{Name: "a", Kind: kind, Null: null}
			other := api.Column{Name: "b", Kind: api.Int}
			look := func(c api.Cell, want api.Errno) {
				for _, got := range []api.Errno{Fits(api.Row{c}, []api.Column{column}), Fits(api.Row{num(1), c}, []api.Column{other, column}), Fits(api.Row{c, num(1)}, []api.Column{column, other})} {
					if got != want {
						t.Errorf("Fits of %v in %v: %d, not %d", c, column, got, want)
					}
				}
			}
			for _, c := range cellsThatMayBe() {
				if c.Kind == 0 && null || c.Kind == kind && kind != 0 {
					look(c, api.OK)
				} else {
					look(c, api.ErrArg)
				}
			}
			for _, c := range cellsThatMayNotBe() {
				look(c, api.ErrArg)
			}
		}
	}
}

// Ce3

// cellsAndTexts are cells that may be, and what Show says of them.
var cellsAndTexts = []struct {
	c api.Cell
	s string
}{
	{api.Cell{}, "null"},
	{of(1, -5, ""), "-5"}, {of(1, 0, ""), "0"}, {of(1, 7, ""), "7"}, {of(1, 10, ""), "10"}, {of(1, -10, ""), "-10"}, {of(1, 100, ""), "100"}, {of(1, 1234567890, ""), "1234567890"},
	{of(1, math.MaxInt, ""), "9223372036854775807"}, {of(1, math.MinInt, ""), "-9223372036854775808"}, {of(1, math.MinInt+1, ""), "-9223372036854775807"},
	{of(2, 0, ""), "''"}, {of(2, 0, "a"), "'a'"}, {of(2, 0, "it's"), "'it''s'"}, {of(2, 0, "'"), "''''"}, {of(2, 0, "''"), "''''''"}, {of(2, 0, "'a'"), "'''a'''"}, {of(2, 0, "a''b"), "'a''''b'"},
	{of(2, 0, "null"), "'null'"}, {of(2, 0, "-5"), "'-5'"}, {of(2, 0, "?"), "'?'"}, {of(2, 0, " "), "' '"}, {of(2, 0, "\\"), "'\\'"}, {of(2, 0, "\""), "'\"'"}, {of(2, 0, "\n"), "'\n'"}, {of(2, 0, "\x00"), "'\x00'"},
	{of(2, 0, "\x80\xff"), "'\x80\xff'"}, {of(2, 0, "\xc3\xa4"), "'\xc3\xa4'"},
	{of(2, 0, "xxxxxxxxxxxxxxxxxxxxxxxxxxxxxxxx"), "'xxxxxxxxxxxxxxxxxxxxxxxxxxxxxxxx'"},
	{of(2, 0, "''''''''''''''''''''''''''''''''"), "''''''''''''''''''''''''''''''''''''''''''''''''''''''''''''''''''"},
}

// shows fails if Show says otherwise.
func shows(t *testing.T, c api.Cell, want string) {
	t.Helper()
	if got := Show(c); got != want {
		t.Errorf("Show(%v): %q, not %q", c, got, want)
	}
}

// reads fails if Read answers another cell.
func reads(t *testing.T, s string, want api.Cell) {
	t.Helper()
	if got, errno := Read(s); got != want || errno != api.OK {
		t.Errorf("Read(%q): %v, %d, not %v", s, got, errno, want)
	}
}

// readsNot fails if Read does not answer ErrForm, and no cell.
func readsNot(t *testing.T, s string) {
	t.Helper()
	if got, errno := Read(s); got != (api.Cell{}) || errno != api.ErrForm {
		t.Errorf("Read(%q): %v, %d, not ErrForm alone", s, got, errno)
	}
}

func TestShowAndRead(t *testing.T) {
	for _, c := range cellsAndTexts {
		shows(t, c.c, c.s)
		reads(t, c.s, c.c)
	}
}

// digits is a number as text once more, of numbers that can't overflow.
func digits(n int) string { return big.NewInt(int64(n)).String() }

func TestShowAndReadOfNumbers(t *testing.T) {
	look := func(n int) {
		shows(t, num(n), digits(n))
		reads(t, digits(n), num(n))
	}
	for n := -2000; n <= 2000; n++ {
		look(n)
	}
	ten := 1
	for range 19 {
		for near := -1; near <= 1; near++ {
			look(ten + near)
			look(-ten + near)
		}
		ten *= 10
	}
	for near := range 30 {
		look(math.MinInt + near)
		look(math.MaxInt - near)
	}
	for _, n := range someNumbers {
		look(n)
	}
}

// What Show says of a cell hangs on its Kind, and on what this gives a meaning; of other Kinds it is a question mark.
func TestShowOfCellsThatMayNotBe(t *testing.T) {
	for _, kind := range someKinds {
		if kind < 0 || kind > 2 {
			for _, c := range []api.Cell{of(kind, 0, ""), of(kind, 5, ""), of(kind, 0, "a"), of(kind, -5, "it's")} {
				shows(t, c, "?")
			}
		}
	}
	shows(t, of(0, 5, ""), "null")
	shows(t, of(0, 0, "a"), "null")
	shows(t, of(1, -5, "a"), "-5")
	shows(t, of(2, 5, "it's"), "'it''s'")
	shows(t, txt(xs(33)), "'"+xs(33)+"'")
	shows(t, txt(strings.Repeat("'", 300)), strings.Repeat("'", 602))
}

func TestReadOfTextsThatShowNeverSays(t *testing.T) {
	for _, s := range []string{
		"", " ", "?", "??", "NULL", "Null", "nul", "null ", " null", "nulll", "nil", "\x00", "\x80", "a", "abc", "true",
		"007", "00", "01", "-0", "-00", "-01", "-007", "+0", "+1", "+", "-", "--1", "-+1", "+-1", "- 1", " 1", "1 ", "1\n", "1.0", "1.", ".1", "1e3", "1_000", "_1", "0x10", "0b1", "0o7", "1a", "a1", "-a", "1-", "1'", "٣",
		"9223372036854775808", "-9223372036854775809", "9223372036854775810", "10000000000000000000", "-10000000000000000000", "18446744073709551615", "18446744073709551616", "18446744073709551621", "99999999999999999999", "-18446744073709551616", strings.Repeat("9", 1000), strings.Repeat("0", 1000) + "1", "09223372036854775807",
		"'", "'''", "'''''", "'a", "a'", "'a''", "''a'", "''a", "'a'b'", "'a'b", "'a''b", "a'b'", "'it's'", "'it'''s'", "''''a'", "'a''''", "'a'''b'", " 'a'", "'a' ", "'a'\n", "\"a\"", "'a\"", "\"a'", "`a`", "'null", "null'", "''null",
		"'" + xs(33) + "'", "'" + xs(34) + "'", "'" + xs(300) + "'", "'" + strings.Repeat("''", 33) + "'", "'" + strings.Repeat("''", 32) + "'a'", "'" + xs(32) + "''" + "'", strings.Repeat("'", 65), strings.Repeat("'", 67), strings.Repeat("'", 68), strings.Repeat("'", 1<<16),
	} {
		readsNot(t, s)
	}
}

// All texts of some letters, against all cells of which so short a text is said.
func TestReadOfAnyText(t *testing.T) {
	const letters, count = "'-+01a", 6
	said := map[string]api.Cell{}
	for n := -99999; n <= 999999; n++ {
		said[digits(n)] = num(n)
	}
	each(letters, count-2, func(s string) {
		shown := "'"
		for k := range len(s) {
			shown += s[k : k+1]
			if s[k] == '\'' {
				shown += "'"
			}
		}
		said[shown+"'"] = txt(s)
	})
	each(letters, count, func(s string) {
		if c, there := said[s]; there {
			reads(t, s, c)
		} else {
			readsNot(t, s)
		}
	})
}

// Each text that lies near to null.
func TestReadOfTextsLikeNull(t *testing.T) {
	each("nulNUL ", 4, func(s string) {
		if s == "null" {
			reads(t, s, api.Cell{})
		} else {
			readsNot(t, s)
		}
	})
}

// Ce4

// Sorted by Compare, each two cells stand as their places do: so none is ahead of itself, two that are not the same are told apart, and what is ahead of what is ahead is ahead.
func TestCompareIsATotalOrder(t *testing.T) {
	l := allCells()
	for seed := range 3 {
		s := stir(seed)
		for k := range l {
			other := s.below(k + 1)
			l[k], l[other] = l[other], l[k]
		}
		slices.SortFunc(l, Compare)
		if l = slices.Compact(l); len(l) < 300 {
			t.Fatalf("%d cells alone", len(l))
		}
		inOrder(t, l)
	}
}

func TestWhatIsPutIsTaken(t *testing.T) {
	s := stir(4)
	cells := cellsThatMayBe()
	for k := range 5000 {
		r, next := s.row(cells, s.below(1+k%256)), s.row(cells, s.below(4))
		put, errno := Put(r)
		if put != bytesOf(r) || errno != api.OK {
			t.Fatalf("Put(%v): %x, %d", r, put, errno)
		}
		behind, _ := Put(next)
		takes(t, put+behind, r, len(put))
		takes(t, (put + behind)[len(put):], next, len(behind))
	}
}

// Each cell that may be is taken, and read, as it was; each that may not be is refused by Put, and not read from what is shown of it.
func TestWhatIsShownIsReadAndWhatIsPutIsTaken(t *testing.T) {
	for _, c := range cellsThatMayBe() {
		reads(t, Show(c), c)
		s, _ := Put(api.Row{c})
		takes(t, s, api.Row{c}, len(s))
	}
	for _, c := range cellsThatMayNotBe() {
		if got, errno := Read(Show(c)); got == c || errno != api.OK && errno != api.ErrForm || errno == api.OK && Check(got) != api.OK {
			t.Errorf("Read of what is shown of %v: %v, %d", c, got, errno)
		}
	}
}

// No two cells that may be are shown, or put, as the same.
func TestCellsAreToldApart(t *testing.T) {
	shown, put := map[string]api.Cell{}, map[string]api.Cell{}
	for _, c := range cellsThatMayBe() {
		s, _ := Put(api.Row{c})
		if other, there := put[s]; there {
			t.Errorf("%v and %v have the same bytes, %x", c, other, s)
		}
		if other, there := shown[Show(c)]; there {
			t.Errorf("%v and %v are shown as %q", c, other, Show(c))
		}
		put[s], shown[Show(c)] = c, c
	}
}

// R1 to R4

// What is handed in stays as it is, what lies behind its end is not read, and what is answered is new memory.
func TestRulesOfLists(t *testing.T) {
	room := api.Row{num(1), txt("a"), of(9, 9, "z"), txt(xs(33))}
	r, before := room[:2], slices.Clone(room)
	columns := []api.Column{{Name: "a", Kind: api.Int}, {Name: "b", Kind: api.Text}, {Name: "c", Kind: 9}}
	by := []api.Sort{up(2), down(3), down(0)}
	puts(t, r, "\x02\x01\x02\x02\x01a")
	if got := Fits(r, columns[:2]); got != api.OK {
		t.Errorf("Fits of two of four cells: %d", got)
	}
	if got := CompareRows(r, api.Row{num(1), txt("b")}, by); got != 0 {
		t.Errorf("CompareRows read behind a row's end: %d", got)
	}
	if got := CompareRows(api.Row{num(1)}, api.Row{num(2)}, by[:2]); got != 0 {
		t.Errorf("CompareRows read behind the end of by: %d", got)
	}
	if !slices.Equal(room, before) || !slices.Equal(by, []api.Sort{up(2), down(3), down(0)}) || columns[2].Kind != 9 {
		t.Errorf("what was handed in became %v, %v, %v", room, by, columns)
	}
	s, _ := Put(r)
	first, _, _ := Take(s)
	second, _, _ := Take(s)
	first[0], first[1] = of(7, 7, "7"), api.Cell{}
	_ = append(first[:1], num(8), num(9))
	if !slices.Equal(second, r) {
		t.Errorf("two answers of Take share memory: %v", second)
	}
	takes(t, s, r, len(s))
}

func TestNilAndTheEmptyListAreTheSame(t *testing.T) {
	puts(t, nil, "\x00")
	puts(t, api.Row{}, "\x00")
	a, b := api.Row{num(1)}, api.Row{num(2)}
	if CompareRows(a, b, nil) != CompareRows(a, b, []api.Sort{}) || CompareRows(nil, a, []api.Sort{up(0)}) != CompareRows(api.Row{}, a, []api.Sort{up(0)}) {
		t.Error("CompareRows tells nil from the empty list")
	}
	if Fits(nil, nil) != Fits(api.Row{}, []api.Column{}) || Fits(nil, []api.Column{{}}) != Fits(api.Row{}, []api.Column{{}}) {
		t.Error("Fits tells nil from the empty list")
	}
}

// No call panics, whatever it is given, and the same is answered again; beside an error there is nothing.
func TestAnyArguments(t *testing.T) {
	s := stir(5)
	cells := allCells()
	for range 30000 {
		text := make([]byte, s.below(40))
		for k := range text {
			text[k] = "\x00\x01\x02\x03\x20\x21\x80\xff'-0179anul"[s.below(18)]
		}
		r, used, errno := Take(string(text))
		c, notRead := Read(string(text))
		row := s.row(cells, s.below(4))
		put, notPut := Put(row)
		if again, usedAgain, errnoAgain := Take(string(text)); !slices.Equal(again, r) || usedAgain != used || errnoAgain != errno {
			t.Fatalf("Take(%x): %v, %d, %d, then %v, %d, %d", text, r, used, errno, again, usedAgain, errnoAgain)
		}
		if again, notAgain := Read(string(text)); again != c || notAgain != notRead {
			t.Fatalf("Read(%q): %v, %d, then %v, %d", text, c, notRead, again, notAgain)
		}
		if again, notAgain := Put(row); again != put || notAgain != notPut {
			t.Fatalf("Put(%v): %x, %d, then %x, %d", row, put, notPut, again, notAgain)
		}
		if errno != api.OK && (len(r) != 0 || used != 0) || notRead != api.OK && c != (api.Cell{}) || notPut != api.OK && put != "" {
			t.Fatalf("beside an error: Take %v, %d; Read %v; Put %x", r, used, c, put)
		}
	}
}
