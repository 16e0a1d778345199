package schema

import (
	"fmt"
	"peristyle/api"
	"slices"
	"strings"
	"testing"
)

// The chapter's example.
func TestExample(t *testing.T) {
	l, errno := Create(nil, "t", []api.Column{col("a", api.Int, false), col("b", api.Text, true)})
	if errno != api.OK || len(l) != 1 || l[0].Name != "t" || len(l[0].Projections) != 1 {
		t.Fatalf("Create t (a, b): %s, %d", told(l), errno)
	}
	p := l[0].Projections[0]
	if p.Name != "super" || !slices.Equal(p.Cols, []int{0, 1}) || p.Keys != 0 {
		t.Errorf("its projection is %s", toldProjection(p))
	}
	if left, errno := Remove(l, "t", "super"); len(left) != 0 || errno != api.ErrLast {
		t.Errorf("Remove super: %s, %d, not ErrLast alone", told(left), errno)
	}
}

// Sc1: Check

func TestCheckOfTablesThatMayBe(t *testing.T) {
	for _, s := range goods() {
		checks(t, s.what, s.l, api.OK)
	}
}

func TestCheckOfTablesThatMayNotBe(t *testing.T) {
	for _, s := range bads() {
		checks(t, s.what, s.l, api.ErrArg)
	}
}

// Each name, and each text that is none, as that of a table, a column and a projection, in front, in the middle and at the end.
func TestCheckOfNames(t *testing.T) {
	for at := range 3 {
		for _, name := range goodNames() {
			nameSomewhere(t, at, name, api.OK)
		}
		for _, name := range badNames() {
			nameSomewhere(t, at, name, api.ErrArg)
		}
	}
}

// nameSomewhere fails if Check answers otherwise where a name stands that none of the three tables has.
func nameSomewhere(t *testing.T, at int, name string, want api.Errno) {
	t.Helper()
	checks(t, "a table's name", changed(at, func(t *api.Table) { t.Name = name }), meantUnless(name, want, tableNames(three())))
	for place := range 3 {
		var others []string
		for _, c := range three()[at].Columns {
			others = append(others, c.Name)
		}
		checks(t, "a column's name", changed(at, func(t *api.Table) { t.Columns[place].Name = name }), meantUnless(name, want, slices.Delete(others, place, place+1)))
		others = projectionNames(three()[at])
		checks(t, "a projection's name", changed(at, func(t *api.Table) { t.Projections[place].Name = name }), meantUnless(name, want, slices.Delete(others, place, place+1)))
	}
}

// meantUnless is ErrArg where one of others has the name.
func meantUnless(name string, want api.Errno, others []string) api.Errno {
	if slices.Contains(others, name) {
		return api.ErrArg
	}
	return want
}

// Two faults, and all, are no less wrong than one.
func TestCheckOfSeveralFaults(t *testing.T) {
	all := bads()
	rule := stir(5)
	for range 2000 {
		a, b := one(rule, all...).l, one(rule, all...).l
		joined := slices.Concat(a, b)
		checks(t, "two lists that may not be", joined, api.ErrArg)
		slices.Reverse(joined)
		checks(t, "two lists that may not be", joined, api.ErrArg)
	}
}

// Lists of any length end.
func TestCheckOfLongLists(t *testing.T) {
	const count = 1 << 17
	tables, columns, projections := make([]api.Table, count), make([]api.Column, count), make([]api.Projection, count)
	for k := range count {
		name := fmt.Sprintf("n%d", k)
		tables[k], columns[k], projections[k] = small(name), col(name, api.Int, false), proj(name, 0, 0)
	}
	long := small("a")
	long.Projections[0].Cols = upTo(count)
	wide := api.Table{Name: "a", Columns: columns, Projections: []api.Projection{proj("super", 0, upTo(count)...)}}
	for what, l := range map[string][]api.Table{
		"tables":      tables,
		"columns":     {wide},
		"projections": {{Name: "a", Columns: cols(1), Projections: projections}},
		"Cols":        {long},
	} {
		if errno := Check(l); errno != api.ErrArg {
			t.Errorf("many %s: Check: %d", what, errno)
		}
		if s, errno := Put(l); s != "" || errno != api.ErrArg {
			t.Errorf("many %s: Put: %d bytes, %d", what, len(s), errno)
		}
	}
	if _, errno := Create(nil, "a", columns); errno != api.ErrArg {
		t.Errorf("Create with many columns: %d", errno)
	}
	if _, errno := Add(many(1), "t_a", proj("p", 0, upTo(count)...)); errno != api.ErrArg {
		t.Errorf("Add with many Cols: %d", errno)
	}
	if !Super(wide, wide.Projections[0]) {
		t.Error("Super of many columns: false")
	}
	if got := Find(tables, fmt.Sprintf("n%d", count-1)); got != count-1 {
		t.Errorf("Find among many: %d", got)
	}
	if got := Column(wide, fmt.Sprintf("n%d", count-1)); got != count-1 {
		t.Errorf("Column among many: %d", got)
	}
}

// Sc1: Find and Column

// finds fails if Find and Column tell otherwise of tables and columns of these names.
func finds(t *testing.T, names []string, name string, want int) {
	t.Helper()
	var tables []api.Table
	var columns []api.Column
	for _, name := range names {
		tables = append(tables, small(name))
		columns = append(columns, col(name, api.Int, false))
	}
	for _, in := range [][]api.Table{cloned(tables), roomy(tables)} {
		before := whole(in)
		if got := Find(in, name); got != want {
			t.Errorf("Find(%q, %q): %d, not %d", names, name, got, want)
		}
		if after := whole(in); !same(after, before) {
			t.Errorf("Find changed %s to %s", told(before), told(after))
		}
	}
	for _, in := range [][]api.Column{columns, roomyColumns(columns)} {
		before := toldColumns(in[:cap(in)])
		if got := Column(api.Table{Columns: in}, name); got != want {
			t.Errorf("Column(%q, %q): %d, not %d", names, name, got, want)
		}
		if after := toldColumns(in[:cap(in)]); after != before {
			t.Errorf("Column changed %s to %s", before, after)
		}
	}
}

func TestFindAndColumn(t *testing.T) {
	finds(t, nil, "a", -1)
	finds(t, nil, "", -1)
	finds(t, []string{}, "a", -1)
	finds(t, []string{"a"}, "a", 0)
	finds(t, []string{"a"}, "b", -1)
	finds(t, []string{"a"}, "", -1)
	finds(t, []string{"ab"}, "a", -1)
	finds(t, []string{"a"}, "ab", -1)
	finds(t, []string{"a"}, "A", -1)
	finds(t, []string{"a", "b", "c"}, "a", 0)
	finds(t, []string{"a", "b", "c"}, "b", 1)
	finds(t, []string{"a", "b", "c"}, "c", 2)
	finds(t, []string{"a", "b", "c"}, "behind", -1)
}

// Of those that may not be they tell, too: the first of several, names that are none, more than may be.
func TestFindAndColumnOfWhatMayNotBe(t *testing.T) {
	finds(t, []string{"a", "b", "a", "b"}, "a", 0)
	finds(t, []string{"a", "b", "a", "b"}, "b", 1)
	finds(t, []string{"a", "b", "b", "b"}, "b", 1)
	for _, name := range badNames() {
		finds(t, []string{"a", name, "b", name}, name, 1)
		finds(t, []string{name, "a"}, name, 0)
		finds(t, []string{"a", "b"}, name, -1)
	}
	for _, name := range goodNames() {
		finds(t, []string{"", name, name}, name, 1)
	}
	finds(t, strings.Split(letters, ""), "z", 25)
	finds(t, slices.Repeat([]string{"a"}, 100), "a", 0)
	if got := Find([]api.Table{{}, {Name: "a"}, {Name: "a", Columns: cols(9)}}, "a"); got != 1 {
		t.Errorf("Find of tables without columns: %d", got)
	}
	if got := Column(api.Table{Name: "a"}, "a"); got != -1 {
		t.Errorf("Column of a table without columns, that has the name: %d", got)
	}
	if got := Column(three()[0], "p"); got != -1 {
		t.Errorf("Column of a projection's name: %d", got)
	}
	if got := Find(three(), "super"); got != -1 {
		t.Errorf("Find of a projection's name: %d", got)
	}
	if got := Find(three(), "x"); got != -1 {
		t.Errorf("Find of a column's name: %d", got)
	}
}

// Of the first that has the name, wherever it stands.
func TestFindAndColumnOfAllShortLists(t *testing.T) {
	some := []string{"a", "b", "", "a0"}
	for count := range 5 {
		for code := range pow(len(some), count) {
			names := make([]string, count)
			for k := range names {
				names[k] = some[code/pow(len(some), k)%len(some)]
			}
			for _, name := range append(some, "c") {
				finds(t, names, name, firstNamed(names, name))
			}
		}
	}
}

func pow(n, times int) int {
	made := 1
	for range times {
		made *= n
	}
	return made
}

// Sc1: Super

// supers fails if Super tells otherwise, or changes something.
func supers(t *testing.T, columns int, cols []int, want bool) {
	t.Helper()
	of := api.Table{Name: "t", Columns: make([]api.Column, columns)}
	for _, in := range [][]int{slices.Clone(cols), cutOut(cols, columns-1)} {
		before := slices.Clone(in[:cap(in)])
		for _, p := range []api.Projection{{Name: "p", Cols: in}, {Cols: in, Keys: -1}, {Name: "super", Cols: in, Keys: great}} {
			if got := Super(of, p); got != want {
				t.Errorf("Super of %d columns, %s: %t", columns, toldProjection(p), got)
			}
		}
		if after := in[:cap(in)]; !slices.Equal(after, before) {
			t.Errorf("Super changed %v to %v", before, after)
		}
	}
}

func TestSuper(t *testing.T) {
	supers(t, 0, nil, true)
	supers(t, 0, []int{}, true)
	supers(t, 0, []int{0}, false)
	supers(t, 0, []int{-1}, false)
	supers(t, 1, nil, false)
	supers(t, 1, []int{0}, true)
	supers(t, 1, []int{1}, false)
	supers(t, 1, []int{-1}, false)
	supers(t, 1, []int{0, 0}, false)
	supers(t, 3, []int{2, 0, 1}, true)
	supers(t, 3, []int{2, 0, 0}, false)
	supers(t, 3, []int{2, 0}, false)
	supers(t, 3, []int{0, 1, 2, 2}, false)
	supers(t, 3, []int{0, 1, 2, 3}, false)
	supers(t, 3, []int{1, 2, 3}, false)
	supers(t, 3, []int{-1, 0, 1}, false)
	supers(t, 3, []int{0, 1, great}, false)
	supers(t, 3, []int{least, 1, 2}, false)
	supers(t, 3, []int{0, 1, 1<<32 + 2}, false)
	// Of more columns than may be, too.
	supers(t, 9, upTo(9), true)
	supers(t, 9, upTo(8), false)
	supers(t, 8, upTo(9), false)
	supers(t, 100, upTo(100), true)
}

func TestSuperOfAllShortLists(t *testing.T) {
	for columns := range 5 {
		of := api.Table{Columns: make([]api.Column, columns)}
		some := append(upTo(columns+1), -1)
		for count := range columns + 2 {
			for code := range pow(len(some), count) {
				list := make([]int, count)
				for k := range list {
					list[k] = some[code/pow(len(some), k)%len(some)]
				}
				supers(t, columns, list, superMeant(of, api.Projection{Cols: list}))
			}
		}
	}
}

// What else a table has, and whether it may be, does not tell in it.
func TestSuperOfTablesThatMayNotBe(t *testing.T) {
	for _, s := range append(bads(), goods()...) {
		for _, of := range s.l {
			for _, p := range of.Projections {
				if got := Super(of, p); got != superMeant(of, p) {
					t.Errorf("%s: Super(%s, %s): %t", s.what, told([]api.Table{of}), toldProjection(p), got)
				}
			}
		}
	}
}

// Sc2: Create

// created fails if Create does not answer this error.
func created(t *testing.T, l []api.Table, name string, columns []api.Column, want api.Errno) []api.Table {
	t.Helper()
	made, errno := creates(t, l, name, columns)
	if errno != want {
		t.Errorf("Create %.40q (%s) is meant to answer %d, not %d", name, toldColumns(columns), errno, want)
	}
	return made
}

// The table stands behind all others, its columns in their order.
func TestCreate(t *testing.T) {
	var l []api.Table
	for k := range mostTables {
		columns := cols(k + 1)
		slices.Reverse(columns)
		name := "t" + letter(k)
		got, errno := Create(l, name, columns)
		want := append(cloned(l), api.Table{Name: name, Columns: columns, Projections: []api.Projection{{Name: "super", Cols: upTo(k + 1)}}})
		if errno != api.OK || !same(got, want) {
			t.Fatalf("Create %s: %s, %d, not %s", name, told(got), errno, told(want))
		}
		created(t, l, name, columns, api.OK)
		l = got
	}
	created(t, l, "more", cols(1), api.ErrLimit)
	created(t, []api.Table{}, "t", cols(1), api.OK)
	created(t, three(), "fourth", cols(mostColumns), api.OK)
	// Names of columns and projections are none of tables, and super is a name as others are.
	for _, name := range []string{"super", "x", "p", "all", "z"} {
		created(t, three(), name, []api.Column{col(name, api.Text, true)}, api.OK)
	}
}

func TestCreateOfTablesThatMayBe(t *testing.T) {
	for _, s := range goods() {
		creates(t, s.l, "new", cols(2))
		for _, name := range tableNames(s.l) {
			created(t, s.l, name, cols(2), api.ErrTwice)
		}
	}
}

func TestCreateOfTablesThatMayNotBe(t *testing.T) {
	for _, s := range bads() {
		created(t, s.l, "new", cols(2), api.ErrArg)
	}
}

func TestCreateOfNames(t *testing.T) {
	for _, name := range goodNames() {
		created(t, many(1), name, cols(1), api.OK)
		created(t, nil, "t", []api.Column{col(name, api.Int, true)}, api.OK)
	}
	for _, name := range badNames() {
		created(t, many(1), name, cols(1), api.ErrArg)
		created(t, nil, "t", []api.Column{col(name, api.Int, true)}, api.ErrArg)
	}
	for _, name := range fewBadNames() {
		for place := range mostColumns {
			columns := cols(mostColumns)
			columns[place].Name = name
			created(t, many(1), "t", columns, api.ErrArg)
		}
	}
}

// columnsThatMayNotBe are some for each cause.
func columnsThatMayNotBe() [][]api.Column {
	l := [][]api.Column{nil, {}, cols(mostColumns + 1), cols(20), {{}}}
	for place := range 3 {
		for _, kind := range append(oddInts(), 0, 3) {
			columns := cols(3)
			columns[place].Kind = kind
			l = append(l, columns)
		}
		for other := range 3 {
			columns := cols(3)
			columns[place].Name = columns[(place+other)%3].Name
			if other != 0 {
				l = append(l, columns)
			}
		}
	}
	eight := cols(mostColumns)
	eight[mostColumns-1].Name = eight[0].Name
	return append(l, eight)
}

func TestCreateOfColumns(t *testing.T) {
	for _, columns := range columnsThatMayNotBe() {
		created(t, nil, "t", columns, api.ErrArg)
		created(t, many(7), "t", columns, api.ErrArg)
	}
	for _, kind := range []int{api.Int, api.Text} {
		for _, null := range []bool{false, true} {
			for place := range 3 {
				columns := cols(3)
				columns[place].Kind, columns[place].Null = kind, null
				made := created(t, many(7), "t", columns, api.OK)
				if got := made[7].Columns[place]; got != columns[place] {
					t.Errorf("a column is %v, not %v", got, columns[place])
				}
			}
		}
	}
}

// Which error comes first: each pair of causes, and all at once.
func TestCreateErrorsInOrder(t *testing.T) {
	full := atMost()
	broken := many(4)
	broken[2].Columns[0].Kind = 0
	bad := [][]api.Table{many(mostTables + 1), broken}
	for _, l := range bad {
		for _, name := range []string{"t_a", "new", "", "A"} {
			for _, columns := range [][]api.Column{cols(1), nil, cols(9)} {
				created(t, l, name, columns, api.ErrArg)
			}
		}
	}
	for _, l := range [][]api.Table{three(), full, many(mostTables)} {
		for _, columns := range [][]api.Column{nil, cols(9), {col("a", 0, false)}} {
			created(t, l, "new", columns, api.ErrArg)
			created(t, l, l[0].Name, columns, api.ErrArg)
			created(t, l, "", columns, api.ErrArg)
		}
		created(t, l, "", cols(1), api.ErrArg)
		created(t, l, strings.ToUpper(l[0].Name), cols(1), api.ErrArg)
		for _, name := range tableNames(l) {
			created(t, l, name, cols(1), api.ErrTwice)
		}
	}
	created(t, full, "new", cols(1), api.ErrLimit)
	created(t, many(mostTables), "new", cols(mostColumns), api.ErrLimit)
	created(t, many(mostTables-1), "new", cols(1), api.OK)
}

// Sc2: Drop

func dropped(t *testing.T, l []api.Table, name string, want api.Errno) []api.Table {
	t.Helper()
	left, errno := drops(t, l, name)
	if errno != want {
		t.Errorf("Drop %.40q is meant to answer %d, not %d", name, errno, want)
	}
	return left
}

// The first, those in the middle, the last, the only one; the others stay in their order.
func TestDrop(t *testing.T) {
	for count := range mostTables + 1 {
		for at := range count {
			l := many(count)
			got, errno := Drop(l, l[at].Name)
			want := append(many(count)[:at], many(count)[at+1:]...)
			if errno != api.OK || !same(got, want) {
				t.Errorf("Drop the table %d of %d: %s, %d", at, count, told(got), errno)
			}
			dropped(t, many(count), l[at].Name, api.OK)
		}
		dropped(t, many(count), "none", api.ErrNone)
		dropped(t, many(count), "a", api.ErrNone)
		dropped(t, many(count), "super", api.ErrNone)
	}
	for _, name := range badNames() {
		dropped(t, three(), name, api.ErrNone)
	}
	dropped(t, []api.Table{}, "t", api.ErrNone)
	dropped(t, atMost(), atMost()[3].Name, api.OK)
}

func TestDropOfTables(t *testing.T) {
	for _, s := range goods() {
		for _, name := range tableNames(s.l) {
			dropped(t, s.l, name, api.OK)
		}
		dropped(t, s.l, "none", api.ErrNone)
	}
	for _, s := range bads() {
		dropped(t, s.l, "none", api.ErrArg)
		for _, name := range tableNames(s.l) {
			dropped(t, s.l, name, api.ErrArg)
		}
	}
}

// Sc2: Add

func added(t *testing.T, l []api.Table, name string, p api.Projection, want api.Errno) []api.Table {
	t.Helper()
	made, errno := adds(t, l, name, p)
	if errno != want {
		t.Errorf("Add to %.40q %s is meant to answer %d, not %d", name, toldProjection(p), errno, want)
	}
	return made
}

// It stands behind that table's others, and all else is as it was.
func TestAdd(t *testing.T) {
	for at := range 3 {
		l := three()
		for k := range mostProjections - 3 {
			p := proj("n"+letter(k), k%2, 2, k%2)
			got, errno := Add(l, l[at].Name, p)
			want := cloned(l)
			want[at].Projections = append(want[at].Projections, p)
			if errno != api.OK || !same(got, want) {
				t.Fatalf("Add to the table %d: %s, %d, not %s", at, told(got), errno, told(want))
			}
			added(t, l, l[at].Name, p, api.OK)
			l = got
		}
		added(t, l, l[at].Name, proj("more", 0, 0), api.ErrLimit)
		added(t, l, l[(at+1)%3].Name, proj("more", 0, 0), api.OK)
	}
}

func TestAddOfTables(t *testing.T) {
	for _, s := range goods() {
		for at, name := range tableNames(s.l) {
			adds(t, s.l, name, proj("new", 1, 0))
			adds(t, s.l, name, proj("new", 0, upTo(len(s.l[at].Columns))...))
			for _, p := range s.l[at].Projections {
				added(t, s.l, name, p, api.ErrTwice)
			}
		}
		added(t, s.l, "none", proj("new", 0, 0), api.ErrNone)
	}
	for _, s := range bads() {
		for _, name := range append(tableNames(s.l), "none") {
			added(t, s.l, name, proj("new", 0, 0), api.ErrArg)
		}
	}
}

func TestAddOfNames(t *testing.T) {
	for at := range 3 {
		name := three()[at].Name
		for _, good := range goodNames() {
			want := api.OK
			if slices.Contains(projectionNames(three()[at]), good) {
				want = api.ErrTwice
			}
			added(t, three(), name, proj(good, 1, 1), want)
		}
	}
	for _, bad := range badNames() {
		added(t, three(), "second", proj(bad, 1, 1), api.ErrArg)
		added(t, three(), bad, proj("new", 1, 1), api.ErrNone)
	}
	for _, name := range []string{"second", "x", "first"} {
		added(t, three(), "second", proj(name, 1, 1), api.OK)
	}
}

// All Cols of few numbers, beside each Keys.
func TestAddOfAllShortCols(t *testing.T) {
	for columns := 1; columns <= 3; columns++ {
		l := []api.Table{{Name: "t", Columns: cols(columns), Projections: []api.Projection{proj("super", 0, upTo(columns)...)}}}
		some := append(upTo(columns+1), -1)
		for count := range columns + 2 {
			for code := range pow(len(some), count) {
				list := make([]int, count)
				for k := range list {
					list[k] = some[code/pow(len(some), k)%len(some)]
				}
				for keys := -1; keys <= count+1; keys++ {
					p := proj("p", keys, list...)
					want := api.OK
					if !projectionMeant(p, columns) {
						want = api.ErrArg
					}
					if got, errno := Add(l, "t", p); errno != want || (len(got) == 1) != (want == api.OK) {
						t.Errorf("Add to %d columns %s: %s, %d, not %d", columns, toldProjection(p), told(got), errno, want)
					}
				}
			}
		}
	}
}

func TestAddOfProjections(t *testing.T) {
	eight := []api.Table{small("a"), {Name: "t", Columns: cols(mostColumns), Projections: []api.Projection{proj("super", 0, upTo(mostColumns)...)}}, small("z")}
	for keys := range mostColumns + 1 {
		added(t, eight, "t", proj("p", keys, upTo(mostColumns)...), api.OK)
	}
	added(t, eight, "t", proj("p", mostColumns+1, upTo(mostColumns)...), api.ErrArg)
	added(t, eight, "t", proj("p", 0, upTo(mostColumns+1)...), api.ErrArg)
	added(t, eight, "t", proj("p", 0, append(upTo(mostColumns), 0)...), api.ErrArg)
	added(t, eight, "t", api.Projection{Name: "p"}, api.ErrArg)
	added(t, eight, "t", api.Projection{Name: "p", Cols: []int{}}, api.ErrArg)
	added(t, eight, "t", api.Projection{}, api.ErrArg)
	// The number of columns is that table's, not another one's.
	added(t, eight, "t", proj("p", 1, 7), api.OK)
	added(t, eight, "a", proj("p", 1, 7), api.ErrArg)
	added(t, eight, "z", proj("p", 1, 1), api.ErrArg)
	for _, odd := range append(oddInts(), 8) {
		for place := range mostColumns {
			list := upTo(mostColumns)
			list[place] = odd
			added(t, eight, "t", proj("p", 0, list...), api.ErrArg)
		}
		added(t, eight, "t", proj("p", 0, odd), api.ErrArg)
	}
	for _, odd := range oddInts() {
		added(t, eight, "t", proj("p", odd, upTo(mostColumns)...), api.ErrArg)
		added(t, eight, "t", proj("p", odd, 3), api.ErrArg)
	}
}

// Which error comes first: each pair of causes, and all at once.
func TestAddErrorsInOrder(t *testing.T) {
	broken := three()
	broken[1].Projections[2].Keys = 2
	wrong := []api.Projection{proj("P", 0, 0), proj("", 0, 0), {Name: "new"}, proj("new", 0, 3), proj("new", 0, -1), proj("new", 0, 1, 1), proj("new", 2, 1), proj("new", -1, 1)}
	for _, p := range append(wrong, proj("new", 0, 0), proj("p", 0, 0)) {
		for _, name := range []string{"first", "second", "none", "", "A"} {
			added(t, broken, name, p, api.ErrArg)
			added(t, many(mostTables+1), name, p, api.ErrArg)
		}
		for _, name := range []string{"none", "", "First", "p", "x", "behind"} {
			added(t, three(), name, p, api.ErrNone)
			added(t, atMost(), name, p, api.ErrNone)
		}
	}
	full := atMost()
	for _, l := range [][]api.Table{three(), full} {
		for _, p := range wrong {
			if p.Cols != nil && p.Cols[0] == 3 {
				p.Cols = []int{8} // one behind the last of eight, too
			}
			added(t, l, l[0].Name, p, api.ErrArg)
			p.Name, p.Keys = l[0].Projections[0].Name, -1
			added(t, l, l[0].Name, p, api.ErrArg)
		}
		for _, p := range l[0].Projections {
			added(t, l, l[0].Name, proj(p.Name, 0, 0), api.ErrTwice)
		}
	}
	added(t, full, full[0].Name, proj("new", 0, 0), api.ErrLimit)
	added(t, full, full[7].Name, proj("super", 0, upTo(mostColumns)...), api.ErrLimit)
}

// Sc2: Remove

func removed(t *testing.T, l []api.Table, name, projection string, want api.Errno) []api.Table {
	t.Helper()
	left, errno := removes(t, l, name, projection)
	if errno != want {
		t.Errorf("Remove from %.40q %.40q is meant to answer %d, not %d", name, projection, errno, want)
	}
	return left
}

// Each projection of each table: the one with all columns stays, all others go, and what is left is in its order.
func TestRemove(t *testing.T) {
	for at := range 3 {
		for place := range 3 {
			l := three()
			name, projection := l[at].Name, l[at].Projections[place].Name
			if place == superOf(at) {
				removed(t, l, name, projection, api.ErrLast)
				continue
			}
			got, errno := Remove(l, name, projection)
			want := three()
			want[at].Projections = append(want[at].Projections[:place], want[at].Projections[place+1:]...)
			if errno != api.OK || !same(got, want) {
				t.Errorf("Remove the projection %d of the table %d: %s, %d", place, at, told(got), errno)
			}
			removed(t, l, name, projection, api.OK)
		}
	}
}

// One with all columns goes if another has them, in whatever order.
func TestRemoveOneOfTwoWithAllColumns(t *testing.T) {
	for at := range 3 {
		for place := range 3 {
			l := three()
			l[at].Projections[place].Cols = []int{1, 2, 0}
			if place == superOf(at) {
				removed(t, l, l[at].Name, l[at].Projections[place].Name, api.ErrLast)
				continue
			}
			for which := range 3 {
				left := removed(t, l, l[at].Name, l[at].Projections[which].Name, api.OK)
				for _, p := range left[at].Projections {
					if superMeant(left[at], p) && (which == place || which == superOf(at)) {
						removed(t, left, left[at].Name, p.Name, api.ErrLast)
					}
				}
			}
		}
	}
	// As many as all columns of another table are not all of this one.
	l := three()
	l[0].Columns = append(l[0].Columns, col("more", api.Int, false))
	l[0].Projections[0].Cols = upTo(4)
	l[0].Projections[1] = proj("p", 0, 2, 1, 0)
	removed(t, l, "first", "super", api.ErrLast)
	removed(t, l, "first", "p", api.OK)
}

// Down to the last one, in each order.
func TestRemoveTillOneIsLeft(t *testing.T) {
	for seed := range 60 {
		rule, l := stir(seed), atMost()
		for left := mostProjections; left > 1; left-- {
			l = removed(t, l, l[4].Name, l[4].Projections[rule.below(left)].Name, api.OK)
		}
		removed(t, l, l[4].Name, l[4].Projections[0].Name, api.ErrLast)
	}
}

func TestRemoveOfTables(t *testing.T) {
	for _, s := range goods() {
		for at, name := range tableNames(s.l) {
			for _, projection := range projectionNames(s.l[at]) {
				removes(t, s.l, name, projection)
			}
			removed(t, s.l, name, "none", api.ErrNone)
			removed(t, s.l, "none", s.l[at].Projections[0].Name, api.ErrNone)
		}
		removed(t, s.l, "none", "super", api.ErrNone)
	}
	for _, s := range bads() {
		for at, name := range tableNames(s.l) {
			for _, projection := range append(projectionNames(s.l[at]), "none") {
				removed(t, s.l, name, projection, api.ErrArg)
			}
		}
		removed(t, s.l, "none", "none", api.ErrArg)
	}
}

func TestRemoveOfNames(t *testing.T) {
	for _, name := range badNames() {
		removed(t, three(), name, "p", api.ErrNone)
		removed(t, three(), "first", name, api.ErrNone)
		removed(t, three(), name, name, api.ErrNone)
	}
	removed(t, nil, "first", "super", api.ErrNone)
	removed(t, three(), "first", "r", api.ErrNone)      // the second table's
	removed(t, three(), "first", "x", api.ErrNone)      // a column's
	removed(t, three(), "first", "first", api.ErrNone)  // the table's
	removed(t, three(), "first", "behind", api.ErrNone) // in the room behind
	removed(t, three(), "behind", "super", api.ErrNone)
}

// Sc2: what is answered is its own

// Two calls of one list, whose room behind the end is there for either: the first answer is as it was.
func TestTwiceFromOneList(t *testing.T) {
	l := roomy(three())
	a, _ := Create(l, "fourth", cols(2))
	first := told(a)
	b, _ := Create(l, "other", cols(3))
	c, _ := Add(l, "first", proj("new", 1, 1))
	added := told(c)
	d, _ := Add(l, "first", proj("more", 0, 2))
	Drop(l, "first")
	Remove(l, "first", "p")
	if told(a) != first || a[3].Name != "fourth" || b[3].Name != "other" || told(c) != added || c[0].Projections[3].Name != "new" || d[0].Projections[3].Name != "more" {
		t.Errorf("from one list: %s, %s, %s, %s", told(a), told(b), told(c), told(d))
	}
	// From what was answered, too, whatever room it has.
	for range 3 {
		before, last := told(a), ""
		var all [][]api.Table
		for k := range 4 {
			one, _ := Create(a, "n"+letter(k), cols(1))
			two, _ := Add(a, "second", proj("n"+letter(k), 0, 0))
			all = append(all, one, two)
		}
		for k := range 4 {
			last = "n" + letter(k)
			one, two := all[2*k], all[2*k+1]
			if one[len(one)-1].Name != last || two[1].Projections[len(two[1].Projections)-1].Name != last {
				t.Errorf("from one answer: %s, %s, not the name %s", told(one), told(two), last)
			}
		}
		if told(a) != before {
			t.Errorf("the answer that others were made of is %s, not %s", told(a), before)
		}
		a, _ = Create(a, "m"+letter(len(a)), cols(1))
	}
}

// Lists that share memory when they are handed in do not when they are answered.
func TestSharedListsHandedIn(t *testing.T) {
	columns, all := cols(3), upTo(3)
	projections := []api.Projection{{Name: "p", Cols: all}, {Name: "q", Cols: all, Keys: 2}, {Name: "r", Cols: all[:2]}}
	l := []api.Table{{Name: "a", Columns: columns, Projections: projections}, {Name: "b", Columns: columns, Projections: projections}, {Name: "c", Columns: columns, Projections: projections[:2]}}
	handed := slices.Concat(areas("l", l), areaOf("columns", columns), areaOf("all", all))
	for what, call := range map[string]func() ([]api.Table, api.Errno){
		"Create": func() ([]api.Table, api.Errno) { return Create(l, "d", columns) },
		"Drop":   func() ([]api.Table, api.Errno) { return Drop(l, "b") },
		"Add":    func() ([]api.Table, api.Errno) { return Add(l, "b", api.Projection{Name: "s", Cols: all}) },
		"Remove": func() ([]api.Table, api.Errno) { return Remove(l, "b", "q") },
	} {
		got, errno := call()
		if errno != api.OK {
			t.Errorf("%s: %d", what, errno)
		}
		ownMemory(t, what, areas("the answer", got), handed)
	}
}

// Sc3: Put

func TestPutByHand(t *testing.T) {
	puts(t, "no tables, nil", nil, "\x00")
	puts(t, "no tables, empty", []api.Table{}, "\x00")
	l := []api.Table{{Name: "t", Columns: []api.Column{col("a", api.Int, false), col("b_2", api.Text, true)}, Projections: []api.Projection{proj("super", 0, 0, 1), proj("p", 2, 1, 0)}}}
	puts(t, "one table", l, "\x02"+"\x02t"+
		"\x04"+"\x02a\x02\x00"+"\x06b_2\x04\x02"+
		"\x04"+"\x0asuper\x04\x00\x02\x00"+"\x02p\x04\x02\x00\x04")
	long := strings.Repeat("z", mostBytes)
	l = append(l, api.Table{Name: long, Columns: []api.Column{col(long, api.Text, false)}, Projections: []api.Projection{proj(long, 1, 0)}})
	puts(t, "two tables", l, "\x04"+"\x02t"+
		"\x04"+"\x02a\x02\x00"+"\x06b_2\x04\x02"+
		"\x04"+"\x0asuper\x04\x00\x02\x00"+"\x02p\x04\x02\x00\x04"+
		"\x20"+long+"\x02"+"\x20"+long+"\x04\x00"+"\x02"+"\x20"+long+"\x02\x00\x02")
}

func TestPutOfTablesThatMayBe(t *testing.T) {
	for _, s := range goods() {
		puts(t, s.what, s.l, bytesMeant(s.l))
	}
}

func TestPutOfTablesThatMayNotBe(t *testing.T) {
	for _, s := range bads() {
		for _, in := range [][]api.Table{cloned(s.l), roomy(s.l)} {
			before := whole(in)
			if got, errno := Put(in); got != "" || errno != api.ErrArg {
				t.Errorf("%s: Put(%s): %q, %d, not ErrArg alone", s.what, told(s.l), got, errno)
			}
			if after := whole(in); !same(after, before) {
				t.Errorf("%s: Put changed %s to %s", s.what, told(before), told(after))
			}
		}
	}
}

// No two lists of tables have the same bytes, and those of none are the beginning of another one's.
func TestBytesTellTheTables(t *testing.T) {
	seen := map[string]string{}
	for _, s := range goods() {
		got, _ := Put(s.l)
		if other, is := seen[got]; is && other != told(s.l) {
			t.Errorf("%s and %s have the same bytes", other, told(s.l))
		}
		seen[got] = told(s.l)
	}
	for a := range seen {
		for b := range seen {
			if a != b && strings.HasPrefix(a, b) {
				t.Errorf("the bytes of %s begin with those of %s", seen[a], seen[b])
			}
		}
	}
}

// Sc3: Take

// Of what Put gave, whatever stands behind.
func TestTakeOfWhatWasPut(t *testing.T) {
	other := bytesMeant(three())
	for _, s := range goods() {
		bytes := bytesMeant(s.l)
		for _, behind := range []string{"", "\x00", "x", "\x80", "\xff\xff", other, bytes, bytes[:len(bytes)-1]} {
			takes(t, s.what, bytes+behind, s.l, len(bytes), api.OK)
		}
		got, used, _ := Take(bytes + other)
		if put, errno := Put(got); errno != api.OK || put != bytes {
			t.Errorf("%s: Put of what was taken: %q, %d", s.what, put, errno)
		}
		takes(t, s.what, (bytes + other)[used:], three(), len(other), api.OK)
	}
}

func TestTakeOfEachBeginning(t *testing.T) {
	noForm(t, "no bytes", "")
	for _, s := range goods() {
		bytes := bytesMeant(s.l)
		step := 1 + len(bytes)/400
		for end := 0; end < len(bytes); end += step {
			noForm(t, s.what, bytes[:end])
		}
		noForm(t, s.what, bytes[:len(bytes)-1])
	}
	bytes := bytesMeant(atMost())
	for end := range bytes {
		noForm(t, "all that may be", bytes[:end])
	}
}

func TestTakeOfTurnedBits(t *testing.T) {
	for _, s := range []sample{{"none", nil}, {"a small one", many(1)}, {"three", three()}, {"all that may be", atMost()}} {
		bytes := []byte(bytesMeant(s.l))
		// Of many bytes some alone; of few each.
		for at := 0; at < len(bytes); at += 1 + len(bytes)/800 {
			for bit := range 8 {
				bytes[at] ^= 1 << bit
				takesAsMeant(t, s.what, string(bytes))
				takesAsMeant(t, s.what, string(bytes)+"\x02a\x02\x02a\x02\x00\x02\x02a\x02\x00\x00")
				bytes[at] ^= 1 << bit
			}
		}
	}
}

// Each byte of small tables, and each two of them, as others.
func TestTakeOfOtherBytes(t *testing.T) {
	bytes := []byte(bytesMeant(many(1)))
	some := []byte{0, 1, 2, 3, 4, 5, 8, 16, 18, 32, 34, '_', 'a', 't', 'z', 127, 128, 129, 255}
	rightOnes := 0
	for at := range bytes {
		was := bytes[at]
		for b := range 256 {
			bytes[at] = byte(b)
			if takesAsMeant(t, "another byte", string(bytes)) == api.OK {
				rightOnes++
			}
			for next := at + 1; next < len(bytes) && slices.Contains(some, byte(b)); next++ {
				wasNext := bytes[next]
				for _, c := range some {
					bytes[next] = c
					takesAsMeant(t, "two other bytes", string(bytes))
				}
				bytes[next] = wasNext
			}
		}
		bytes[at] = was
	}
	if rightOnes < 100 {
		t.Errorf("of other bytes %d alone were tables", rightOnes)
	}
}

func TestTakeOfShortBytes(t *testing.T) {
	for a := range 256 {
		takesAsMeant(t, "one byte", string([]byte{byte(a)}))
		for b := range 256 {
			takesAsMeant(t, "two bytes", string([]byte{byte(a), byte(b)}))
		}
	}
}

// Each number of the bytes as others: below 0, 0, one less, one more, the least and the greatest, like the right one in fewer bits.
func TestTakeOfOtherNumbers(t *testing.T) {
	for _, s := range []sample{{"none", nil}, {"a small one", many(1)}, {"three", three()}, {"all that may be", atMost()}} {
		all := parts(s.l)
		for at, was := range all {
			// Of many parts some alone; of few each.
			if was.is == "" || at%(1+len(all)/150) != 0 {
				continue
			}
			n := was.n
			for _, other := range append(oddInts(), 0, 1, 2, 3, 4, 5, 6, 7, 8, 17, n-1, n+1, -n, -n-1, n+256, n+1<<16, n+1<<32, n-1<<32, n+least) {
				all[at].n = other
				errno := takesAsMeant(t, s.what+", "+was.is, joined(all))
				takesAsMeant(t, s.what+", "+was.is, joined(all)+strings.Repeat("\x00", 40))
				takesAsMeant(t, s.what+", "+was.is, joined(all)+strings.Repeat("a", 40))
				if (other < 0 || other > mostBytes) && errno != api.ErrForm {
					t.Errorf("%s: %d in the place of %d (%s) is taken", s.what, other, n, was.is)
				}
			}
			all[at] = was
		}
	}
}

// Numbers in more bytes than they need, wherever they stand.
func TestTakeOfLongNumbers(t *testing.T) {
	for _, s := range []sample{{"none", nil}, {"a small one", many(1)}, {"three", three()}, {"all that may be", atMost()}} {
		all := parts(s.l)
		for at, was := range all {
			if was.is == "" {
				continue
			}
			ahead, behind := joined(all[:at]), joined(all[at+1:])
			noForm(t, s.what+", "+was.is, ahead+longNumber(was.n)+behind)
			noForm(t, s.what+", "+was.is, ahead+strings.Repeat("\x80", 9)+"\x02"+behind)
			noForm(t, s.what+", "+was.is, ahead+strings.Repeat("\x80", 10)+"\x00"+behind)
			noForm(t, s.what+", "+was.is, ahead+strings.Repeat("\xff", 20)+behind)
			noForm(t, s.what+", "+was.is, ahead+behind[:0]+"\x80")
		}
	}
}

// Names that are none, as bytes, wherever they stand.
func TestTakeOfNames(t *testing.T) {
	for _, good := range goodNames() {
		l := []api.Table{{Name: good, Columns: []api.Column{col(good, api.Int, false)}, Projections: []api.Projection{proj(good, 0, 0)}}}
		takes(t, "names", bytesMeant(l), l, len(bytesMeant(l)), api.OK)
	}
	for _, bad := range badNames() {
		l := many(3)
		l[1].Name = bad
		noForm(t, "a table's name", bytesMeant(l))
		l = many(3)
		l[1].Columns[0].Name = bad
		noForm(t, "a column's name", bytesMeant(l))
		l = many(3)
		l[1].Projections[0].Name = bad
		noForm(t, "a projection's name", bytesMeant(l))
	}
}

// Tables that may not be, as bytes made by hand.
func TestTakeOfTablesThatMayNotBe(t *testing.T) {
	for _, s := range bads() {
		noForm(t, s.what, bytesMeant(s.l))
		noForm(t, s.what, bytesMeant(s.l)+bytesMeant(three()))
	}
}

// More Cols than there may be numbers, than there are bytes, than there are columns.
func TestTakeOfManyCols(t *testing.T) {
	const most = 1 << 16
	all := parts(many(1))
	at := slices.IndexFunc(all, func(p part) bool { return p.is == "cols" })
	ahead := joined(all[:at])
	for _, count := range []int{2, 3, 8, 9, 255, 256, 257, most - 1, most, most + 1, most + 2, 2 * most, 1 << 20} {
		zeros := strings.Repeat("\x00", count)
		noForm(t, "Cols", ahead+number(count)+zeros+"\x00")
		noForm(t, "Cols", ahead+number(count)+zeros[1:])
		noForm(t, "Cols", ahead+number(count))
	}
	for _, count := range []int{-1, -2, least, great, 1 << 40} {
		noForm(t, "Cols", ahead+number(count)+"\x00\x00")
	}
}

// Sc4

// keptAsItWas is an answer that is held against what it was, however much is made of it.
type keptAsItWas struct {
	l  []api.Table
	is string
}

// Whatever is created, added and taken away, from no tables on, beside a twin; now and then it goes on from an earlier answer.
func TestWhateverIsDone(t *testing.T) {
	done := map[string]int{}
	for seed := range 40 {
		rule := stir(seed)
		var l, twin []api.Table
		var kept []keptAsItWas
		for range 250 {
			what, call, mean := anyCall(rule, l)
			got, errno := call(l)
			want, wantErrno := mean(twin)
			if errno != wantErrno || !same(got, want) {
				t.Fatalf("%s of %s: %s, %d, not %s, %d", what, told(l), told(got), errno, told(want), wantErrno)
			}
			done[fmt.Sprintf("%s %d", what, errno)]++
			if !same(l, twin) {
				t.Fatalf("%s, %d: the tables handed in are %s, not %s", what, errno, told(l), told(twin))
			}
			if errno == api.OK {
				l, twin = got, want
				kept = append(kept, keptAsItWas{l, told(l)})
			}
			mayBeAndCanBeRead(t, what, l)
			if rule.below(40) == 0 && len(kept) > 0 {
				back := one(rule, kept...).l
				l, twin = back, cloned(back)
			}
		}
		for _, k := range kept {
			if told(k.l) != k.is {
				t.Fatalf("an earlier answer is %s, not %s", told(k.l), k.is)
			}
		}
	}
	for _, want := range []string{"Create 0", "Create 1", "Create 4", "Create 251", "Drop 0", "Drop 3", "Add 0", "Add 1", "Add 3", "Add 4", "Add 251", "Remove 0", "Remove 3", "Remove 250"} {
		if done[want] < 5 {
			t.Errorf("%s was answered %d times", want, done[want])
		}
	}
}

// mayBeAndCanBeRead fails if tables may not be, one of them has no projection with all columns, or Put and Take do not lead there and back.
func mayBeAndCanBeRead(t *testing.T, what string, l []api.Table) {
	t.Helper()
	if errno := Check(l); errno != api.OK || !mayBeMeant(l) {
		t.Fatalf("behind %s: Check: %d of %s", what, errno, told(l))
	}
	for _, one := range l {
		if !slices.ContainsFunc(one.Projections, func(p api.Projection) bool { return Super(one, p) && superMeant(one, p) }) {
			t.Fatalf("behind %s: no projection has all columns of %s", what, told([]api.Table{one}))
		}
	}
	s, errno := Put(l)
	if errno != api.OK || s != bytesMeant(l) {
		t.Fatalf("behind %s: Put: %q, %d", what, s, errno)
	}
	back, used, errno := Take(s)
	if errno != api.OK || used != len(s) || !same(back, l) {
		t.Fatalf("behind %s: Take: %s, %d, %d", what, told(back), used, errno)
	}
}

// doing is a call on tables.
type doing func(l []api.Table) ([]api.Table, api.Errno)

// anyCall is a call with any arguments, good ones more often, and what is meant by it.
func anyCall(rule *stirrer, l []api.Table) (string, doing, doing) {
	name := anyName(rule, tableNames(l))
	var in api.Table
	if at := firstNamed(tableNames(l), name); at >= 0 {
		in = l[at]
	}
	switch rule.below(10) {
	case 0, 1, 2:
		columns := cols(1 + rule.below(mostColumns))
		if rule.below(8) == 0 {
			columns = one(rule, columnsThatMayNotBe()...)
		}
		return "Create", func(l []api.Table) ([]api.Table, api.Errno) { return Create(l, name, columns) },
			func(l []api.Table) ([]api.Table, api.Errno) { return createMeant(l, name, columns) }
	case 3:
		return "Drop", func(l []api.Table) ([]api.Table, api.Errno) { return Drop(l, name) },
			func(l []api.Table) ([]api.Table, api.Errno) { return dropMeant(l, name) }
	case 4, 5, 6, 7:
		p := anyProjection(rule, in)
		return "Add", func(l []api.Table) ([]api.Table, api.Errno) { return Add(l, name, p) },
			func(l []api.Table) ([]api.Table, api.Errno) { return addMeant(l, name, p) }
	}
	projection := anyName(rule, projectionNames(in))
	return "Remove", func(l []api.Table) ([]api.Table, api.Errno) { return Remove(l, name, projection) },
		func(l []api.Table) ([]api.Table, api.Errno) { return removeMeant(l, name, projection) }
}

// anyName is one that is there, if there are some, or another one; seldom it is none.
func anyName(rule *stirrer, there []string) string {
	switch n := rule.below(20); {
	case n == 0:
		return one(rule, fewBadNames()...)
	case n < 12 && len(there) > 0:
		return one(rule, there...)
	}
	return one(rule, goodNames()...)
}

// anyProjection is one of a table, seldom one that may not be.
func anyProjection(rule *stirrer, of api.Table) api.Projection {
	all := upTo(max(1, len(of.Columns)))
	for k := range all {
		other := rule.below(len(all))
		all[k], all[other] = all[other], all[k]
	}
	if rule.below(2) == 0 {
		all = all[:1+rule.below(len(all))]
	}
	name := anyName(rule, nil)
	if rule.below(6) == 0 {
		name = anyName(rule, projectionNames(of))
	}
	p := proj(name, rule.below(len(all)+1), all...)
	switch rule.below(20) {
	case 0:
		p.Keys = one(rule, oddInts()...)
	case 1:
		p.Cols[rule.below(len(all))] = one(rule, oddInts()...)
	case 2:
		p.Cols = append(p.Cols, p.Cols[0])
	}
	return p
}
