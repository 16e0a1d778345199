package parse

import (
	"cmp"
	"peristyle/api"
	"reflect"
	"slices"
	"strings"
	"testing"
	"unsafe"
)

// R1: Text of statements that Parse does not give.

// ends fails if Text does not say the same twice, or changes a statement.
func ends(t *testing.T, s api.Statement) {
	t.Helper()
	if a, b := Text(s), Text(s); a != b {
		t.Errorf("%q; %q", short(a), short(b))
	}
}

// oddConds are conds that Parse does not give; some stand among their own Args.
func oddConds() []api.Cond {
	l := []api.Cond{{}, {At: 7}, {Args: []api.Cond{{}}}, {Kind: 1}, {Kind: 2}, {Kind: 1, Test: 99}, {Kind: 2, Test: -1}, {Kind: 2, Test: 7}, {Kind: 1, Test: 1, Val: api.Cell{Kind: 9}}, {Kind: 1, Test: 7, Val: intCell(1)}, {Kind: 1, Test: 1, Args: []api.Cond{{Kind: 3}}}, {Kind: 5, Args: []api.Cond{{}, {}}}}
	for _, kind := range []int{3, 4, 5, 0, -1, 6, 99, least, great} {
		l = append(l, api.Cond{Kind: kind}, api.Cond{Kind: kind, Args: []api.Cond{}}, api.Cond{Kind: kind, Args: []api.Cond{{}}}, api.Cond{Kind: kind, Args: make([]api.Cond, 5)}, api.Cond{Kind: kind, Test: kind})
		l = append(l, manyDeep(kind, 5, 100_000), ownArg(kind, 1), ownArg(kind, 2), ownArg(kind, 3000), ownArgs(kind, 1), ownArgs(kind, 2000))
		for _, other := range []int{3, 4, 5} {
			l = append(l, manyDeep(kind, other, 100_000), turns(kind, other, 1), turns(kind, other, 1000))
		}
	}
	return l
}

// manyDeep is a cond in others of two kinds, so many deep.
func manyDeep(kind, other, deep int) api.Cond {
	c := api.Cond{Kind: 1, Test: 1, Left: api.Name{Column: "a"}}
	for range deep {
		c = api.Cond{Kind: kind, Args: []api.Cond{c}}
		kind, other = other, kind
	}
	return c
}

// ownArg is a cond that stands among its own Args, last of so many.
func ownArg(kind, count int) api.Cond {
	c := api.Cond{Kind: kind, Args: make([]api.Cond, count)}
	c.Args[count-1] = c
	return c
}

// ownArgs is a cond each of whose Args is that cond.
func ownArgs(kind, count int) api.Cond {
	c := api.Cond{Kind: kind, Args: make([]api.Cond, count)}
	for k := range c.Args {
		c.Args[k] = c
	}
	return c
}

// turns are two conds that are each other's Args.
func turns(kind, other, count int) api.Cond {
	a, b := ownArgs(kind, count), ownArgs(other, count)
	for k := range a.Args {
		a.Args[k], b.Args[k] = b, a
	}
	return a
}

func TestOddConds(t *testing.T) {
	for _, c := range oddConds() {
		ends(t, api.Statement{Kind: 7, Table: "t", Where: c})
		ends(t, api.Statement{Kind: 1, Select: api.Select{Star: true, From: "t", Where: c, Limit: -1, Epoch: -1}})
		ends(t, api.Statement{Where: c})
	}
}

func TestOddStatements(t *testing.T) {
	q := api.Select{Items: make([]api.Item, 3), Group: make([]api.Name, 2), Order: make([]api.Key, 2), Hint: api.Hint{Using: make([]string, 2), Late: 3, Join: 77, Group: -1, Form: great}}
	all := api.Statement{Select: q, Table: "t", Which: "p", Columns: make([]api.Column, 2), Names: make([]api.Name, 2), Keys: -1, Rows: make([]api.Row, 3), Where: api.Cond{Kind: 3}, Epoch: -1}
	for kind := -2; kind <= 13; kind++ {
		all.Kind = kind
		ends(t, api.Statement{Kind: kind})
		ends(t, api.Statement{Kind: kind, At: -1, Select: api.Select{Join: "u"}})
		ends(t, all)
	}
	for _, n := range []int{least, least + 1, -1, 4, 5, 6, 7, 8, 9, 10, 255, great - 1, great} {
		ends(t, api.Statement{Kind: n, Keys: n, Epoch: n, At: n})
		ends(t, api.Statement{Kind: 4, Keys: n})
		ends(t, api.Statement{Kind: 9, Epoch: n})
		ends(t, api.Statement{Kind: 1, Select: api.Select{Items: []api.Item{{Agg: n}, {Agg: n, Star: true}}, Order: []api.Key{{Item: n, At: n}}, Limit: n, Epoch: n, Hint: api.Hint{Late: n, Join: n, Group: n, Form: n}}})
		ends(t, api.Statement{Kind: 2, Columns: []api.Column{{Kind: n, Null: true}}})
		ends(t, api.Statement{Kind: 6, Rows: []api.Row{{{Kind: n, N: n, S: "x"}}, nil, {}}})
		ends(t, api.Statement{Kind: 7, Where: api.Cond{Kind: n, Test: n, Val: api.Cell{Kind: n}}})
		ends(t, api.Statement{Kind: 7, Where: api.Cond{Kind: 1, Test: n}})
		ends(t, api.Statement{Kind: 7, Where: api.Cond{Kind: 2, Test: n}})
	}
	ends(t, api.Statement{})
}

// Lists that are far longer than those that Parse gives.
func TestLongLists(t *testing.T) {
	const count = 1 << 17
	ends(t, api.Statement{Kind: 1, Select: api.Select{Items: make([]api.Item, count), Group: make([]api.Name, count), Order: make([]api.Key, count), Hint: api.Hint{Using: make([]string, count)}}})
	ends(t, api.Statement{Kind: 2, Columns: make([]api.Column, count)})
	ends(t, api.Statement{Kind: 4, Names: make([]api.Name, count)})
	ends(t, api.Statement{Kind: 6, Rows: make([]api.Row, count)})
	ends(t, api.Statement{Kind: 6, Rows: slices.Repeat([]api.Row{make(api.Row, count)}, count)})
	ends(t, api.Statement{Kind: 7, Where: api.Cond{Kind: 3, Args: make([]api.Cond, count)}})
	ends(t, api.Statement{Kind: 7, Table: many("t", "", 1<<20), Where: api.Cond{Kind: 1, Left: api.Name{Table: "\x00\xff'", Column: "select"}}})
}

// R1, and P1 of this layer: texts of any bytes, and of any tokens.

func TestTextsOfAnyBytes(t *testing.T) {
	s := stir(6)
	few := []byte("at_09-'''<=>.(),* \t\n")
	for k := range 20000 {
		bytes := make([]byte, s.below(60))
		for at := range bytes {
			if bytes[at] = one(s, few); k%2 == 0 && s.below(10) == 0 {
				bytes[at] = byte(s.below(256))
			}
		}
		asMeant(t, string(bytes))
		asMeant(t, "select a from t where "+string(bytes))
		asMeant(t, "insert into t values("+string(bytes))
	}
	for k := range 256 {
		asMeant(t, string([]byte{byte(k)}))
		for _, text := range manyStatements()[:20] {
			for _, at := range []int{0, s.below(len(text)), len(text)} {
				asMeant(t, text[:at]+string([]byte{byte(k)})+text[at:])
			}
		}
	}
}

func TestTextsOfAnyTokens(t *testing.T) {
	s := stir(7)
	for range 20000 {
		var tokens []string
		for range s.below(30) {
			tokens = append(tokens, one(s, vocabulary))
		}
		asMeant(t, spaced(s, tokens))
	}
}

// Drawn statements, some of whose tokens are left out, doubled, changed or moved.
func TestChangedStatements(t *testing.T) {
	s := stir(8)
	for range 20000 {
		tokens := rule("statement").drawn(s, 0)
		for range 1 + s.below(3) {
			at := s.below(len(tokens))
			switch s.below(5) {
			case 0:
				tokens = slices.Delete(tokens, at, at+1)
			case 1:
				tokens = slices.Insert(tokens, at, tokens[at])
			case 2:
				tokens[at] = one(s, vocabulary)
			case 3:
				tokens = slices.Insert(tokens, at, one(s, vocabulary))
			case 4:
				other := s.below(len(tokens))
				tokens[at], tokens[other] = tokens[other], tokens[at]
			}
			if len(tokens) == 0 {
				tokens = []string{"select"}
			}
		}
		asMeant(t, spaced(s, tokens))
	}
}

// Drawn statements of which pieces are put together.
func TestSplicedStatements(t *testing.T) {
	s := stir(9)
	for range 10000 {
		a, b := rule("statement").drawn(s, 0), rule("statement").drawn(s, 0)
		asMeant(t, spaced(s, append(slices.Clone(a[:s.below(len(a)+1)]), b[s.below(len(b)+1):]...)))
	}
}

// R3

// richText says something of each kind that a select can say.
const richText = "select a,t.b,count(*),sum(u.c)from t join u on t.a=u.a where(a=1 or not(b='it''s' and c<d))and e is null group by a,t.b order by 1 desc,2 limit 5 at 3 hint using p,q late"

var richTexts = []string{richText, "create table t(a int,b text null)", "create projection p on t(a,b)keys 1", "insert into t values(1,'it''s',null),(2,'plain',3)", "delete from t where not(a='x' or b.c='y')", "drop projection p on t", "move t"}

// What was answered has no bytes of the text that was handed in.
func TestAnswersShareNothingWithTheText(t *testing.T) {
	for _, s := range richTexts {
		bytes := []byte(s)
		got, _, errno := Parse(unsafe.String(&bytes[0], len(bytes)))
		for k := range bytes {
			bytes[k] = '#'
		}
		if want, _, _ := meant(s); errno != 0 || !reflect.DeepEqual(got, want) {
			t.Errorf("%q: %+v, when it was changed; wanted %+v", s, got, want)
		}
	}
}

// room is where a list lies, with the room behind its end.
type room struct{ from, to uintptr }

// roomsOf are those of all lists in a value.
func roomsOf(v reflect.Value) []room {
	var l []room
	switch v.Kind() {
	case reflect.Slice:
		if v.Cap() > 0 {
			l = append(l, room{v.Pointer(), v.Pointer() + uintptr(v.Cap())*v.Type().Elem().Size()})
		}
		fallthrough
	case reflect.Array:
		for k := range v.Len() {
			l = append(l, roomsOf(v.Index(k))...)
		}
	case reflect.Struct:
		for k := range v.NumField() {
			l = append(l, roomsOf(v.Field(k))...)
		}
	}
	return l
}

// No two lists of answers share memory, nor the room behind their ends.
func TestAnswersAreNewMemory(t *testing.T) {
	var kept []api.Statement
	for range 3 {
		for _, s := range richTexts {
			statement, _, _ := Parse(s)
			kept = append(kept, statement)
		}
	}
	l := roomsOf(reflect.ValueOf(kept))
	slices.SortFunc(l, func(a, b room) int { return cmp.Compare(a.from, b.from) })
	for k := 1; k < len(l); k++ {
		if l[k].from < l[k-1].to {
			t.Errorf("%x and %x", l[k-1], l[k])
		}
	}
}

// What a caller makes of an answer changes nothing of what is answered later.
func TestAnswersAreTheCallers(t *testing.T) {
	for _, s := range richTexts {
		want, _, _ := meant(s)
		first, _, _ := Parse(s)
		second, _, _ := Parse(s)
		spoil(reflect.ValueOf(&first).Elem())
		if !reflect.DeepEqual(second, want) {
			t.Errorf("%q: %+v", s, second)
		}
		answers(t, s, want, 0, 0)
		printed(t, want)
	}
}

// spoil changes all that is in a value's lists, and behind their ends.
func spoil(v reflect.Value) {
	switch v.Kind() {
	case reflect.Slice:
		whole := v.Slice(0, v.Cap())
		for k := range whole.Len() {
			spoil(whole.Index(k))
		}
	case reflect.Array:
		for k := range v.Len() {
			spoil(v.Index(k))
		}
	case reflect.Struct:
		for k := range v.NumField() {
			spoil(v.Field(k))
		}
	case reflect.Int:
		v.SetInt(9)
	case reflect.String:
		v.SetString("spoilt")
	case reflect.Bool:
		v.SetBool(!v.Bool())
	}
}

// Text changes nothing, and reads nothing behind the ends of lists.
func TestTextChangesNothing(t *testing.T) {
	for _, s := range slices.Concat(richTexts, manyStatements()) {
		handed, _, _ := Parse(s)
		want, _, _ := Parse(s)
		text := Text(handed)
		if !reflect.DeepEqual(handed, want) {
			t.Errorf("%q: %+v", s, handed)
		}
		with, rooms := roomy(reflect.ValueOf(handed)), 0
		if got := Text(with.Interface().(api.Statement)); got != text {
			t.Errorf("%q: %q; wanted %q", s, got, text)
		}
		eachRoom(with, func(behind reflect.Value) {
			rooms++
			fresh := reflect.New(behind.Type()).Elem()
			if spoil(fresh); !reflect.DeepEqual(behind.Interface(), fresh.Interface()) {
				t.Errorf("%q: %+v", s, behind)
			}
		})
		if rooms == 0 && len(roomsOf(reflect.ValueOf(handed))) > 0 {
			t.Errorf("%q: no room", s)
		}
	}
}

// roomy is a copy of a value, in which something else stands behind the end of each list.
func roomy(v reflect.Value) reflect.Value {
	c := reflect.New(v.Type()).Elem()
	c.Set(v)
	switch v.Kind() {
	case reflect.Slice:
		if v.Len() == 0 {
			break
		}
		whole := reflect.MakeSlice(v.Type(), v.Len()+3, v.Len()+3)
		for k := range whole.Len() {
			if k < v.Len() {
				whole.Index(k).Set(roomy(v.Index(k)))
			} else {
				spoil(whole.Index(k))
			}
		}
		c.Set(whole.Slice(0, v.Len()))
	case reflect.Array:
		for k := range v.Len() {
			c.Index(k).Set(roomy(v.Index(k)))
		}
	case reflect.Struct:
		for k := range v.NumField() {
			c.Field(k).Set(roomy(v.Field(k)))
		}
	}
	return c
}

// eachRoom goes over what stands behind the ends of a value's lists.
func eachRoom(v reflect.Value, f func(behind reflect.Value)) {
	switch v.Kind() {
	case reflect.Slice:
		for k := v.Len(); k < v.Cap(); k++ {
			f(v.Slice(0, v.Cap()).Index(k))
		}
		fallthrough
	case reflect.Array:
		for k := range v.Len() {
			eachRoom(v.Index(k), f)
		}
	case reflect.Struct:
		for k := range v.NumField() {
			eachRoom(v.Field(k), f)
		}
	}
}

// Of lists that are nil and of empty ones Text says the same.
func TestTextOfEmptyLists(t *testing.T) {
	for kind := range 12 {
		none := api.Statement{Kind: kind, Table: "t"}
		empty := none
		empty.Columns, empty.Names, empty.Rows, empty.Where.Args = []api.Column{}, []api.Name{}, []api.Row{}, []api.Cond{}
		empty.Select = api.Select{Items: []api.Item{}, Group: []api.Name{}, Order: []api.Key{}, Hint: api.Hint{Using: []string{}}}
		if a, b := Text(none), Text(empty); a != b {
			t.Errorf("%d: %q, %q", kind, a, b)
		}
	}
	for _, s := range manyStatements() {
		handed := right(t, s)
		want := Text(handed)
		emptied(reflect.ValueOf(&handed).Elem())
		if got := Text(handed); got != want {
			t.Errorf("%q; wanted %q", got, want)
		}
	}
}

// emptied makes empty lists of those that are nil.
func emptied(v reflect.Value) {
	switch v.Kind() {
	case reflect.Slice:
		if v.IsNil() {
			v.Set(reflect.MakeSlice(v.Type(), 0, 0))
		}
		for k := range v.Len() {
			emptied(v.Index(k))
		}
	case reflect.Array:
		for k := range v.Len() {
			emptied(v.Index(k))
		}
	case reflect.Struct:
		for k := range v.NumField() {
			emptied(v.Field(k))
		}
	}
}

// R4: the same is answered again, whatever was asked between, and also at once.
func TestAnswersHangOnArgumentsAlone(t *testing.T) {
	s := stir(10)
	texts := slices.Concat(manyStatements(), richTexts, []string{"", ";", "select", "select a from t limit -1", "select a from t where " + deep(strings.Repeat("(", 17)), many(" ", "", 2000)})
	for range 300 {
		texts = append(texts, strings.Join(rule("statement").drawn(s, 0), " "))
	}
	for range 3 {
		for range texts {
			asMeant(t, one(s, texts))
		}
	}
	done := make(chan []string)
	for range 4 {
		go func() {
			var l []string
			for _, text := range texts {
				statement, _, _ := Parse(text)
				l = append(l, Text(statement))
			}
			done <- l
		}()
	}
	first := <-done
	for range 3 {
		if l := <-done; !slices.Equal(l, first) {
			t.Error("not the same")
		}
	}
}
