package schema

import (
	"cmp"
	"encoding/binary"
	"fmt"
	"math"
	"peristyle/api"
	"regexp"
	"slices"
	"strings"
	"testing"
	"unsafe"
)

const (
	mostTables      = 8
	mostColumns     = 8
	mostProjections = 6
	mostBytes       = 16 // of a name
	least           = math.MinInt
	great           = math.MaxInt
	letters         = "abcdefghijklmnopqrstuvwxyz"
	inNames         = letters + "0123456789_"
)

// stirrer gives numbers by a fixed rule.
type stirrer struct{ word uint64 }

func stir(seed int) *stirrer { return &stirrer{uint64(seed)*2 + 1} }

func (s *stirrer) below(n int) int {
	s.word = s.word*6364136223846793005 + 1442695040888963407
	return int(s.word >> 33 % uint64(n))
}

// one is one of some.
func one[T any](s *stirrer, l ...T) T { return l[s.below(len(l))] }

// col is a column, proj a projection.
func col(name string, kind int, null bool) api.Column {
	return api.Column{Name: name, Kind: kind, Null: null}
}

func proj(name string, keys int, cols ...int) api.Projection {
	return api.Projection{Name: name, Cols: cols, Keys: keys}
}

// upTo are the numbers from 0 on, so many.
func upTo(count int) []int {
	l := []int{}
	for k := range count {
		l = append(l, k)
	}
	return l
}

// letter is a name of one letter, by its number.
func letter(k int) string { return letters[k : k+1] }

// cols are so many columns: a, b and so on, of unlike kinds.
func cols(count int) []api.Column {
	var l []api.Column
	for k := range count {
		l = append(l, col(letter(k), 1+k%2, k%3 == 0))
	}
	return l
}

// small is a table of one column and one projection.
func small(name string) api.Table {
	return api.Table{Name: name, Columns: cols(1), Projections: []api.Projection{proj("super", 0, 0)}}
}

// many are so many small tables: t_a, t_b and so on.
func many(count int) []api.Table {
	var l []api.Table
	for k := range count {
		l = append(l, small("t_"+letter(k)))
	}
	return l
}

// three are tables of three columns and three projections each; the one that has all columns is the first, the second, the third.
func three() []api.Table {
	return []api.Table{
		{Name: "first", Columns: []api.Column{col("x", api.Int, false), col("y", api.Text, true), col("z", api.Int, true)}, Projections: []api.Projection{proj("super", 0, 0, 1, 2), proj("p", 1, 2, 0), proj("q", 0, 1)}},
		{Name: "second", Columns: []api.Column{col("x", api.Text, false), col("u_1", api.Text, false), col("v", api.Int, false)}, Projections: []api.Projection{proj("p", 2, 1, 2), proj("all", 3, 2, 1, 0), proj("r", 1, 0)}},
		{Name: "third", Columns: []api.Column{col("k", api.Int, true), col("m", api.Int, false), col("first", api.Text, true)}, Projections: []api.Projection{proj("second", 0, 0), proj("w", 1, 2, 1), proj("z", 2, 1, 0, 2)}},
	}
}

// atMost are as many tables as may be, each with all that may be, with the longest names.
func atMost() []api.Table {
	var l []api.Table
	for k := range mostTables {
		t := api.Table{Name: "t" + strings.Repeat(letter(k), mostBytes-1)}
		for n := range mostColumns {
			t.Columns = append(t.Columns, col("c"+strings.Repeat(letter(n), mostBytes-1), 1+(k+n)%2, (k+n)%3 == 0))
		}
		for n := range mostProjections {
			all := upTo(mostColumns)
			slices.Reverse(all[n:])
			t.Projections = append(t.Projections, proj("p"+strings.Repeat(letter(n), mostBytes-1), mostColumns, all...))
		}
		l = append(l, t)
	}
	return l
}

// word is the chapter's "name".
var word = regexp.MustCompile(`\A[a-z][a-z0-9_]{0,15}\z`)

// goodNames are names: of 1 byte and of 16, with each byte that may stand there in front, within and at the end.
func goodNames() []string {
	var l []string
	for _, b := range letters {
		l = append(l, string(b), string(b)+strings.Repeat("a", mostBytes-1), string(b)+"_", string(b)+"0")
	}
	for _, b := range inNames {
		l = append(l, "a"+string(b), "a"+string(b)+"a", strings.Repeat("a", mostBytes-1)+string(b), "a"+strings.Repeat(string(b), mostBytes-1))
	}
	return append(l, "super", "select", "null", "int", "a_b_c", "a__9", "z9_", strings.Repeat("q", mostBytes-1))
}

// badNames are none: of no byte, of 17 and more, with each byte that may not stand there in front, within and at the end.
func badNames() []string {
	l := fewBadNames()
	for b := range 256 {
		odd := string([]byte{byte(b)})
		if !strings.Contains(letters, odd) {
			l = append(l, odd, odd+"a", odd+strings.Repeat("a", mostBytes-1))
		}
		if !strings.Contains(inNames, odd) {
			l = append(l, "a"+odd, "a"+odd+"a", strings.Repeat("a", mostBytes-1)+odd, "a"+odd+strings.Repeat("a", mostBytes-2))
		}
	}
	for _, count := range []int{18, 31, 32, 33, 255, 256, 257, 256 + mostBytes, 1 << 16, 1<<16 + 1} {
		l = append(l, strings.Repeat("a", count))
	}
	return append(l, "\u00e9", "a\u00e9", "\u0430", "a\u2028", "a\u0660", "\ufeffa", "a\r\n")
}

// fewBadNames are one of each kind of those.
func fewBadNames() []string {
	return []string{"", strings.Repeat("a", mostBytes+1), "A", "aA", "0", "_", "_a", "9z", " ", " a", "a ", "a b", "a-b", "\x00", "a\x00", "\x00a", "\x80", "a\x80", "a\xff", "a`", "a{", "a/", "a:", "a\n"}
}

// oddInts are numbers that no limit of the layer lets be, some of which are like small ones in fewer bits.
func oddInts() []int {
	return []int{least, least + 1, least + 2, -1 << 32, -256, -2, -1, 9, 10, 255, 256, 257, 1 << 16, 1<<32 + 1, 1<<32 + 2, 1 << 62, great - 1, great}
}

// mayBeMeant tells whether tables may be, by the chapter's words.
func mayBeMeant(l []api.Table) bool {
	names := map[string]bool{}
	for _, t := range l {
		if !tableMeant(t) {
			return false
		}
		names[t.Name] = true
	}
	return len(l) <= mostTables && len(names) == len(l)
}

func tableMeant(t api.Table) bool {
	names, supers := map[string]bool{}, 0
	for _, p := range t.Projections {
		if !projectionMeant(p, len(t.Columns)) {
			return false
		}
		names[p.Name] = true
		if superMeant(t, p) {
			supers++
		}
	}
	count := len(t.Projections)
	return word.MatchString(t.Name) && columnsMeant(t.Columns) && count >= 1 && count <= mostProjections && len(names) == count && supers > 0
}

func columnsMeant(l []api.Column) bool {
	names := map[string]bool{}
	for _, c := range l {
		if !word.MatchString(c.Name) || c.Kind != 1 && c.Kind != 2 {
			return false
		}
		names[c.Name] = true
	}
	return len(l) >= 1 && len(l) <= mostColumns && len(names) == len(l)
}

func projectionMeant(p api.Projection, columns int) bool {
	set := map[int]bool{}
	for _, c := range p.Cols {
		if c < 0 || c > columns-1 {
			return false
		}
		set[c] = true
	}
	return word.MatchString(p.Name) && len(p.Cols) >= 1 && len(set) == len(p.Cols) && p.Keys >= 0 && p.Keys <= len(p.Cols)
}

// superMeant asks of each column by itself whether its number is there.
func superMeant(t api.Table, p api.Projection) bool {
	for number := range t.Columns {
		if !slices.Contains(p.Cols, number) {
			return false
		}
	}
	return len(p.Cols) == len(t.Columns)
}

// firstNamed is the number of the first name of a list that is this one.
func firstNamed(names []string, name string) int {
	for k, other := range names {
		if other == name {
			return k
		}
	}
	return -1
}

func tableNames(l []api.Table) (names []string) {
	for _, t := range l {
		names = append(names, t.Name)
	}
	return names
}

func projectionNames(t api.Table) (names []string) {
	for _, p := range t.Projections {
		names = append(names, p.Name)
	}
	return names
}

// createMeant, dropMeant, addMeant and removeMeant are what the four calls answer by the chapter's words.
func createMeant(l []api.Table, name string, columns []api.Column) ([]api.Table, api.Errno) {
	if !mayBeMeant(l) || !word.MatchString(name) || !columnsMeant(columns) {
		return nil, api.ErrArg
	}
	if slices.Contains(tableNames(l), name) {
		return nil, api.ErrTwice
	}
	if len(l) >= mostTables {
		return nil, api.ErrLimit
	}
	made := cloned(l)
	made = append(made, api.Table{Name: name, Columns: slices.Clone(columns), Projections: []api.Projection{proj("super", 0, upTo(len(columns))...)}})
	return made, api.OK
}

func dropMeant(l []api.Table, name string) ([]api.Table, api.Errno) {
	if !mayBeMeant(l) {
		return nil, api.ErrArg
	}
	var left []api.Table
	for _, t := range cloned(l) {
		if t.Name != name {
			left = append(left, t)
		}
	}
	if len(left) == len(l) {
		return nil, api.ErrNone
	}
	return left, api.OK
}

func addMeant(l []api.Table, name string, p api.Projection) ([]api.Table, api.Errno) {
	if !mayBeMeant(l) {
		return nil, api.ErrArg
	}
	at := firstNamed(tableNames(l), name)
	if at == -1 {
		return nil, api.ErrNone
	}
	if !projectionMeant(p, len(l[at].Columns)) {
		return nil, api.ErrArg
	}
	if slices.Contains(projectionNames(l[at]), p.Name) {
		return nil, api.ErrTwice
	}
	if len(l[at].Projections) >= mostProjections {
		return nil, api.ErrLimit
	}
	made := cloned(l)
	made[at].Projections = append(made[at].Projections, proj(p.Name, p.Keys, slices.Clone(p.Cols)...))
	return made, api.OK
}

func removeMeant(l []api.Table, name, projection string) ([]api.Table, api.Errno) {
	if !mayBeMeant(l) {
		return nil, api.ErrArg
	}
	at := firstNamed(tableNames(l), name)
	if at == -1 || firstNamed(projectionNames(l[at]), projection) == -1 {
		return nil, api.ErrNone
	}
	made := cloned(l)
	var left []api.Projection
	hasAll, others := false, 0
	for _, p := range made[at].Projections {
		switch {
		case p.Name == projection:
			hasAll = superMeant(l[at], p)
			continue
		case superMeant(l[at], p):
			others++
		}
		left = append(left, p)
	}
	if hasAll && others == 0 {
		return nil, api.ErrLast
	}
	made[at].Projections = left
	return made, api.OK
}

// number are a number's bytes, by the library: groups of seven bits, the lowest first, of the number that is turned so that its sign is the lowest bit.
func number(n int) string { return string(binary.AppendVarint(nil, int64(n))) }

// longNumber are the same with a last group that is not needed.
func longNumber(n int) string {
	s := []byte(number(n))
	s[len(s)-1] |= 0x80
	return string(s) + "\x00"
}

// part is a number that stands in the bytes of tables, or some of a name's bytes.
type part struct {
	n    int
	text string
	is   string // what it tells; of a text nothing
}

// bytes are a part's.
func (p part) bytes() string {
	if p.is == "" {
		return p.text
	}
	return number(p.n)
}

// parts are those of the bytes of tables, by the chapter's words, whether they may be or not.
func parts(l []api.Table) []part {
	var made []part
	put := func(is string, n int) { made = append(made, part{n: n, is: is}) }
	name := func(s string) {
		put("length", len(s))
		made = append(made, part{text: s})
	}
	put("tables", len(l))
	for _, t := range l {
		name(t.Name)
		put("columns", len(t.Columns))
		for _, c := range t.Columns {
			name(c.Name)
			put("kind", c.Kind)
			if c.Null {
				put("null", 1)
			} else {
				put("null", 0)
			}
		}
		put("projections", len(t.Projections))
		for _, p := range t.Projections {
			name(p.Name)
			put("cols", len(p.Cols))
			for _, c := range p.Cols {
				put("col", c)
			}
			put("keys", p.Keys)
		}
	}
	return made
}

// joined are the bytes of parts.
func joined(l []part) string {
	var s strings.Builder
	for _, p := range l {
		s.WriteString(p.bytes())
	}
	return s.String()
}

// bytesMeant are the bytes of tables.
func bytesMeant(l []api.Table) string { return joined(parts(l)) }

// taker reads bytes by the chapter's words; what it finds no number or no text is given up by a panic.
type taker struct{ rest string }

type givenUp struct{}

func (r *taker) number() int {
	n, used := binary.Varint([]byte(r.rest))
	if used <= 0 || number(int(n)) != r.rest[:used] {
		panic(givenUp{})
	}
	r.rest = r.rest[used:]
	return int(n)
}

func (r *taker) count() int {
	n := r.number()
	// Each that is counted has a byte at least.
	if n < 0 || n > len(r.rest) {
		panic(givenUp{})
	}
	return n
}

func (r *taker) name() string {
	n := r.count()
	s := r.rest[:n]
	r.rest = r.rest[n:]
	return s
}

func (r *taker) table() (t api.Table) {
	t.Name = r.name()
	for range r.count() {
		c := api.Column{Name: r.name(), Kind: r.number()}
		null := r.number()
		if null != 0 && null != 1 {
			panic(givenUp{})
		}
		c.Null = null == 1
		t.Columns = append(t.Columns, c)
	}
	for range r.count() {
		p := api.Projection{Name: r.name()}
		for range r.count() {
			p.Cols = append(p.Cols, r.number())
		}
		p.Keys = r.number()
		t.Projections = append(t.Projections, p)
	}
	return t
}

// takeMeant is what Take answers by the chapter's words.
func takeMeant(s string) (l []api.Table, used int, errno api.Errno) {
	defer func() {
		if caught := recover(); caught != nil {
			_ = caught.(givenUp)
			l, used, errno = nil, 0, api.ErrForm
		}
	}()
	r := &taker{s}
	for range r.count() {
		l = append(l, r.table())
	}
	if !mayBeMeant(l) {
		return nil, 0, api.ErrForm
	}
	return l, len(s) - len(r.rest), api.OK
}

// cloned are the same tables, with lists of their own.
func cloned(l []api.Table) []api.Table {
	made := append([]api.Table{}, l...)
	for k := range made {
		made[k].Columns = append([]api.Column{}, made[k].Columns...)
		made[k].Projections = append([]api.Projection{}, made[k].Projections...)
		for n := range made[k].Projections {
			made[k].Projections[n].Cols = append([]int{}, made[k].Projections[n].Cols...)
		}
	}
	return made
}

// cutOut is a list with the same in it, that was cut out of a longer one, in which others stand behind its end.
func cutOut[T any](l []T, behind T) []T {
	longer := append(append([]T{}, l...), behind, behind, behind)
	return longer[:len(l)]
}

// roomy are the same tables, each list of which was cut out of a longer one.
func roomy(l []api.Table) []api.Table {
	made := cutOut(l, small("behind"))
	for k := range made {
		made[k].Columns = roomyColumns(made[k].Columns)
		made[k].Projections = cutOut(made[k].Projections, proj("behind", 1, 7))
		for n := range made[k].Projections {
			made[k].Projections[n].Cols = cutOut(made[k].Projections[n].Cols, 77)
		}
	}
	return made
}

func roomyColumns(l []api.Column) []api.Column { return cutOut(l, col("behind", 7, true)) }

func roomyProjection(p api.Projection) api.Projection {
	p.Cols = cutOut(p.Cols, 77)
	return p
}

// same tells whether tables are the same, whatever memory they have.
func same(a, b []api.Table) bool {
	return slices.EqualFunc(a, b, func(a, b api.Table) bool {
		return a.Name == b.Name && slices.Equal(a.Columns, b.Columns) && slices.EqualFunc(a.Projections, b.Projections, sameProjection)
	})
}

func sameProjection(a, b api.Projection) bool {
	return a.Name == b.Name && slices.Equal(a.Cols, b.Cols) && a.Keys == b.Keys
}

// told is what tables are, in words.
func told(l []api.Table) string {
	var s strings.Builder
	for _, t := range l {
		fmt.Fprintf(&s, "%q (%s", t.Name, toldColumns(t.Columns))
		for _, p := range t.Projections {
			fmt.Fprintf(&s, "; %s", toldProjection(p))
		}
		s.WriteString(") ")
	}
	return s.String()
}

func toldColumns(l []api.Column) string {
	var s strings.Builder
	for _, c := range l {
		fmt.Fprintf(&s, "%q %d %t, ", c.Name, c.Kind, c.Null)
	}
	return s.String()
}

func toldProjection(p api.Projection) string {
	return fmt.Sprintf("%q %v by %d", p.Name, p.Cols, p.Keys)
}

// whole are tables, and what stands in the room behind each list's end, as they are now.
func whole(l []api.Table) []api.Table {
	made := slices.Clone(l[:cap(l)])
	for k := range made {
		made[k].Columns = made[k].Columns[:cap(made[k].Columns)]
		made[k].Projections = slices.Clone(made[k].Projections[:cap(made[k].Projections)])
		for n, p := range made[k].Projections {
			made[k].Projections[n].Cols = p.Cols[:cap(p.Cols)]
		}
	}
	return cloned(made)
}

// area is the memory that a list has, its room behind the end, too.
type area struct {
	from, to uintptr
	what     string
}

// areaOf is a list's; none if it has no room.
func areaOf[T any](what string, l []T) []area {
	if cap(l) == 0 {
		return nil
	}
	var one T
	from := uintptr(unsafe.Pointer(unsafe.SliceData(l)))
	return []area{{from, from + uintptr(cap(l))*unsafe.Sizeof(one), what}}
}

// areas are those of all lists of tables.
func areas(what string, l []api.Table) []area {
	made := areaOf(what, l)
	for k, t := range l {
		made = append(made, areaOf(fmt.Sprintf("%s, columns of %d", what, k), t.Columns)...)
		made = append(made, areaOf(fmt.Sprintf("%s, projections of %d", what, k), t.Projections)...)
		for n, p := range t.Projections {
			made = append(made, areaOf(fmt.Sprintf("%s, Cols of %d, %d", what, k, n), p.Cols)...)
		}
	}
	return made
}

// ownMemory fails if two lists of an answer share memory, or one of them with one that was handed in.
func ownMemory(t *testing.T, what string, answered, handed []area) {
	t.Helper()
	own := map[string]bool{}
	for _, a := range answered {
		own[a.what] = true
	}
	all := slices.Concat(answered, handed)
	slices.SortFunc(all, func(a, b area) int { return cmp.Compare(a.from, b.from) })
	reach := area{}
	for _, a := range all {
		if a.from < reach.to && (own[a.what] || own[reach.what]) {
			t.Errorf("%s: %s shares memory with %s", what, a.what, reach.what)
		}
		if a.to > reach.to {
			reach = a
		}
	}
}

// scribble writes over all that tables have, and over the room behind each list's end.
func scribble(l []api.Table) {
	whole := l[:cap(l)]
	for k := range whole {
		for n := range whole[k].Projections[:cap(whole[k].Projections)] {
			p := whole[k].Projections[:cap(whole[k].Projections)][n]
			for m := range p.Cols[:cap(p.Cols)] {
				p.Cols[:cap(p.Cols)][m] = -99
			}
			whole[k].Projections[:cap(whole[k].Projections)][n] = proj("scribble", -99)
		}
		scribbleColumns(whole[k].Columns)
		whole[k] = api.Table{Name: "scribble"}
	}
}

func scribbleColumns(l []api.Column) {
	for k := range l[:cap(l)] {
		l[:cap(l)][k] = col("scribble", -99, true)
	}
}

// answers fails if a call on tables answers otherwise, changes what was handed in, or shares memory with it. The call is asked of lists with and without room behind their ends, and again once what it answered was written over; at last what was handed in is, too.
func answers(t *testing.T, what string, l []api.Table, handed []area, call func(l []api.Table) ([]api.Table, api.Errno), want []api.Table, wantErrno api.Errno) {
	t.Helper()
	for _, in := range [][]api.Table{cloned(l), roomy(l)} {
		before := whole(in)
		for range 2 {
			got, errno := call(in)
			if errno != wantErrno || !same(got, want) {
				t.Errorf("%s: %s, %d, not %s, %d (of %s)", what, told(got), errno, told(want), wantErrno, told(l))
				return
			}
			ownMemory(t, what, areas("the answer", got), slices.Concat(areas("what was handed in", in), handed))
			scribble(got)
			if after := whole(in); !same(after, before) {
				t.Errorf("%s: %s was handed in, and is %s", what, told(before), told(after))
				return
			}
		}
		got, _ := call(in)
		scribble(in)
		if !same(got, want) {
			t.Errorf("%s: when what was handed in is written over, the answer is %s, not %s", what, told(got), told(want))
		}
	}
}

// creates, drops, adds and removes hold a call against the chapter's words, and tell what it answers.
func creates(t *testing.T, l []api.Table, name string, columns []api.Column) ([]api.Table, api.Errno) {
	t.Helper()
	want, wantErrno := createMeant(l, name, columns)
	for _, in := range [][]api.Column{slices.Clone(columns), roomyColumns(columns)} {
		before := toldColumns(in[:cap(in)])
		what := fmt.Sprintf("Create %.40q (%s)", name, toldColumns(columns))
		answers(t, what, l, areaOf("the columns handed in", in), func(l []api.Table) ([]api.Table, api.Errno) { return Create(l, name, in) }, want, wantErrno)
		if after := toldColumns(in[:cap(in)]); after != before {
			t.Errorf("%s: the columns handed in are %s", what, after)
		}
		got, _ := Create(l, name, in)
		scribbleColumns(in)
		if !same(got, want) {
			t.Errorf("%s: when the columns handed in are written over, the answer is %s", what, told(got))
		}
	}
	return want, wantErrno
}

func drops(t *testing.T, l []api.Table, name string) ([]api.Table, api.Errno) {
	t.Helper()
	want, wantErrno := dropMeant(l, name)
	answers(t, fmt.Sprintf("Drop %.40q", name), l, nil, func(l []api.Table) ([]api.Table, api.Errno) { return Drop(l, name) }, want, wantErrno)
	return want, wantErrno
}

func adds(t *testing.T, l []api.Table, name string, p api.Projection) ([]api.Table, api.Errno) {
	t.Helper()
	want, wantErrno := addMeant(l, name, p)
	for _, in := range []api.Projection{{Name: p.Name, Cols: slices.Clone(p.Cols), Keys: p.Keys}, roomyProjection(p)} {
		before := slices.Clone(in.Cols[:cap(in.Cols)])
		what := fmt.Sprintf("Add to %.40q %s", name, toldProjection(p))
		answers(t, what, l, areaOf("the Cols handed in", in.Cols), func(l []api.Table) ([]api.Table, api.Errno) { return Add(l, name, in) }, want, wantErrno)
		if after := in.Cols[:cap(in.Cols)]; !slices.Equal(after, before) {
			t.Errorf("%s: the Cols handed in are %v", what, after)
		}
		got, _ := Add(l, name, in)
		for k := range in.Cols[:cap(in.Cols)] {
			in.Cols[:cap(in.Cols)][k] = -99
		}
		if !same(got, want) {
			t.Errorf("%s: when the Cols handed in are written over, the answer is %s", what, told(got))
		}
	}
	return want, wantErrno
}

func removes(t *testing.T, l []api.Table, name, projection string) ([]api.Table, api.Errno) {
	t.Helper()
	want, wantErrno := removeMeant(l, name, projection)
	answers(t, fmt.Sprintf("Remove from %.40q %.40q", name, projection), l, nil, func(l []api.Table) ([]api.Table, api.Errno) { return Remove(l, name, projection) }, want, wantErrno)
	return want, wantErrno
}

// checks fails if Check answers otherwise, or changes something.
func checks(t *testing.T, what string, l []api.Table, want api.Errno) {
	t.Helper()
	if mayBeMeant(l) != (want == api.OK) {
		t.Errorf("%s: the words mean otherwise of %s", what, told(l))
	}
	for _, in := range [][]api.Table{cloned(l), roomy(l)} {
		before := whole(in)
		if errno := Check(in); errno != want {
			t.Errorf("%s: Check: %d, not %d, of %s", what, errno, want, told(l))
		}
		if after := whole(in); !same(after, before) {
			t.Errorf("%s: Check changed %s to %s", what, told(before), told(after))
		}
	}
}

// puts fails if Put answers other bytes, or an error.
func puts(t *testing.T, what string, l []api.Table, want string) {
	t.Helper()
	for _, in := range [][]api.Table{cloned(l), roomy(l)} {
		before := whole(in)
		if got, errno := Put(in); errno != api.OK || got != want {
			t.Errorf("%s: Put: %q, %d, not %q", what, got, errno, want)
		}
		if after := whole(in); !same(after, before) {
			t.Errorf("%s: Put changed %s to %s", what, told(before), told(after))
		}
	}
}

// takes fails if Take answers otherwise.
func takes(t *testing.T, what, s string, want []api.Table, wantUsed int, wantErrno api.Errno) {
	t.Helper()
	for range 2 {
		got, used, errno := Take(s)
		if errno != wantErrno || used != wantUsed || !same(got, want) {
			t.Errorf("%s: Take(%.200q): %s, %d, %d, not %s, %d, %d", what, s, told(got), used, errno, told(want), wantUsed, wantErrno)
			return
		}
		ownMemory(t, what, areas("the answer", got), nil)
		scribble(got)
	}
}

// noForm fails if Take answers something but ErrForm.
func noForm(t *testing.T, what, s string) {
	t.Helper()
	if _, _, errno := takeMeant(s); errno != api.ErrForm {
		t.Errorf("%s: the words mean no error of %.200q", what, s)
	}
	takes(t, what, s, nil, 0, api.ErrForm)
}

// takesAsMeant fails if Take answers otherwise than the chapter's words.
func takesAsMeant(t *testing.T, what, s string) api.Errno {
	t.Helper()
	want, used, errno := takeMeant(s)
	takes(t, what, s, want, used, errno)
	return errno
}

// sample is tables, and what they are.
type sample struct {
	what string
	l    []api.Table
}

// changed are the three tables, one of which was changed.
func changed(at int, change func(t *api.Table)) []api.Table {
	l := three()
	change(&l[at])
	return l
}

// superOf is the place of the projection that has all columns, in each of the three tables.
func superOf(at int) int { return at }

// goods are tables that may be: few and many of all that may be few or many, each name that may be, and what no word forbids.
func goods() []sample {
	l := []sample{{"none, nil", nil}, {"none, empty", []api.Table{}}, {"three", three()}, {"all that may be", atMost()}}
	for count := 1; count <= mostTables; count++ {
		l = append(l, sample{"many tables", many(count)})
	}
	for count := 1; count <= mostColumns; count++ {
		t := api.Table{Name: "t", Columns: cols(count), Projections: []api.Projection{proj("super", count, upTo(count)...)}}
		l = append(l, sample{"many columns", []api.Table{t}})
		for keys := range count + 1 {
			t.Projections = []api.Projection{proj("super", keys, upTo(count)...)}
			l = append(l, sample{"each Keys", cloned([]api.Table{t})})
		}
	}
	for at := range 3 {
		l = append(l, goodsAt(at)...)
	}
	one := small("a")
	one.Projections[0].Name = "a"
	l = append(l, sample{"a table, a column, a projection of one name", []api.Table{one}})
	other := cloned([]api.Table{one})[0]
	other.Name = "b"
	return append(l, sample{"two tables whose columns and projections have one name", []api.Table{one, other}})
}

// goodsAt are the three tables, with something in one of them that may be.
func goodsAt(at int) []sample {
	var l []sample
	put := func(what string, change func(t *api.Table)) { l = append(l, sample{what, changed(at, change)}) }
	for place := range 3 {
		for _, kind := range []int{1, 2} {
			for _, null := range []bool{false, true} {
				put("each kind", func(t *api.Table) { t.Columns[place].Kind, t.Columns[place].Null = kind, null })
			}
		}
		put("a column of the table's name", func(t *api.Table) { t.Columns[place].Name = t.Name })
		put("a projection of the table's name", func(t *api.Table) { t.Projections[place].Name = t.Name })
		put("a projection of a column's name", func(t *api.Table) { t.Projections[place].Name = t.Columns[place].Name })
		put("all columns, once more", func(t *api.Table) { t.Projections[place].Cols = []int{1, 0, 2} })
		put("no Keys", func(t *api.Table) { t.Projections[place].Keys = 0 })
		put("as many Keys as Cols", func(t *api.Table) { t.Projections[place].Keys = len(t.Projections[place].Cols) })
	}
	put("one projection", func(t *api.Table) { t.Projections = t.Projections[superOf(at) : superOf(at)+1] })
	put("six projections", func(t *api.Table) {
		t.Projections = append(t.Projections, proj("s", 0, 2), proj("s2", 1, 0, 2), proj("s3", 3, 2, 0, 1))
	})
	put("each has all columns", func(t *api.Table) {
		for k := range t.Projections {
			t.Projections[k].Cols = []int{k, (k + 1) % 3, (k + 2) % 3}
		}
	})
	return l
}

// bads are tables that may not be, each for one cause, wherever it stands.
func bads() []sample {
	l := []sample{{"nine tables", many(mostTables + 1)}, {"twenty tables", many(20)}, {"one that is empty", []api.Table{{}}}}
	for at := range 3 {
		l = append(l, badTables(at)...)
		l = append(l, badColumns(at)...)
		l = append(l, badProjections(at)...)
		for place := range 3 {
			l = append(l, badCols(at, place)...)
		}
	}
	for at := range mostTables - 1 {
		twice := many(mostTables)
		twice[mostTables-1].Name = twice[at].Name
		l = append(l, sample{"two tables of one name, among eight", twice})
	}
	return l
}

func badTables(at int) []sample {
	var l []sample
	put := func(what string, change func(t *api.Table)) { l = append(l, sample{what, changed(at, change)}) }
	for _, name := range fewBadNames() {
		put("a table's name", func(t *api.Table) { t.Name = name })
	}
	put("a table's name twice", func(t *api.Table) { t.Name = three()[(at+1)%3].Name })
	put("a table's name twice", func(t *api.Table) { t.Name = three()[(at+2)%3].Name })
	put("no columns, nil", func(t *api.Table) { t.Columns = nil })
	put("no columns, empty", func(t *api.Table) { t.Columns = []api.Column{} })
	put("nine columns", func(t *api.Table) {
		t.Columns = cols(mostColumns + 1)
		t.Projections[superOf(at)].Cols = upTo(mostColumns + 1)
	})
	put("nine columns of which eight are in a projection", func(t *api.Table) {
		t.Columns = cols(mostColumns + 1)
		t.Projections[superOf(at)].Cols = upTo(mostColumns)
	})
	put("no projections, nil", func(t *api.Table) { t.Projections = nil })
	put("no projections, empty", func(t *api.Table) { t.Projections = []api.Projection{} })
	put("seven projections", func(t *api.Table) {
		t.Projections = append(t.Projections, proj("s", 0, 2), proj("s2", 1, 0, 2), proj("s3", 3, 2, 0, 1), proj("s4", 0, 1))
	})
	put("nothing at all", func(t *api.Table) { *t = api.Table{Name: t.Name} })
	return l
}

func badColumns(at int) []sample {
	var l []sample
	put := func(what string, change func(t *api.Table)) { l = append(l, sample{what, changed(at, change)}) }
	for place := range 3 {
		for _, name := range fewBadNames() {
			put("a column's name", func(t *api.Table) { t.Columns[place].Name = name })
		}
		for _, kind := range append(oddInts(), 0, 3) {
			for _, null := range []bool{false, true} {
				put("a kind", func(t *api.Table) { t.Columns[place].Kind, t.Columns[place].Null = kind, null })
			}
		}
		for other := range 3 {
			if other != place {
				put("a column's name twice", func(t *api.Table) { t.Columns[place].Name = t.Columns[other].Name })
			}
		}
	}
	return l
}

func badProjections(at int) []sample {
	var l []sample
	put := func(what string, change func(t *api.Table)) { l = append(l, sample{what, changed(at, change)}) }
	for place := range 3 {
		for _, name := range fewBadNames() {
			put("a projection's name", func(t *api.Table) { t.Projections[place].Name = name })
		}
		for other := range 3 {
			if other != place {
				put("a projection's name twice", func(t *api.Table) { t.Projections[place].Name = t.Projections[other].Name })
			}
		}
		for _, keys := range oddInts() {
			put("Keys", func(t *api.Table) { t.Projections[place].Keys = keys })
		}
		put("one more Keys than Cols", func(t *api.Table) { t.Projections[place].Keys = len(t.Projections[place].Cols) + 1 })
	}
	for _, cols := range [][]int{{0}, {2}, {0, 1}, {2, 0}, {1, 2}} {
		put("none with all columns", func(t *api.Table) { t.Projections[superOf(at)] = proj("less", 0, cols...) })
	}
	put("none with all columns, but with each of them somewhere", func(t *api.Table) {
		t.Projections = []api.Projection{proj("e", 0, 0), proj("f", 0, 1), proj("g", 0, 2)}
	})
	put("the one with all columns is away", func(t *api.Table) {
		t.Projections = slices.Delete(t.Projections, superOf(at), superOf(at)+1)
	})
	return l
}

// badCols are those of one projection; another one that has all columns is there.
func badCols(at, place int) []sample {
	var l []sample
	put := func(what string, cols []int) {
		l = append(l, sample{what, changed(at, func(t *api.Table) {
			t.Projections[place] = api.Projection{Name: t.Projections[place].Name, Cols: cols}
			t.Projections = append(t.Projections, proj("whole", 0, 0, 1, 2))
		})})
	}
	put("no Cols, nil", nil)
	put("no Cols, empty", []int{})
	put("one Cols too many, twice", []int{0, 1, 2, 0})
	put("one Cols too many, behind the last", []int{0, 1, 2, 3})
	put("many Cols", upTo(100))
	for _, odd := range append(oddInts(), 3, 4, 8) {
		put("a Col", []int{odd})
		put("a Col in front", []int{odd, 1, 0})
		put("a Col within", []int{2, odd, 0})
		put("a Col at the end", []int{2, 1, odd})
	}
	put("a Col twice", []int{1, 1})
	put("a Col twice", []int{0, 0, 1})
	put("a Col twice", []int{0, 2, 0})
	put("a Col twice", []int{2, 1, 1})
	put("a Col three times", []int{2, 2, 2})
	return l
}
