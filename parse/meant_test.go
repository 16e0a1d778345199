package parse

import (
	"fmt"
	"math"
	"peristyle/api"
	"peristyle/lex"
	"reflect"
	"slices"
	"strings"
	"testing"
)

const (
	mostBytes = 1024 // of a statement
	least     = math.MinInt
	great     = math.MaxInt
)

// stirrer gives numbers by a fixed rule.
type stirrer struct{ word uint64 }

func stir(seed int) *stirrer { return &stirrer{uint64(seed)*2 + 1} }

func (s *stirrer) below(n int) int {
	s.word = s.word*6364136223846793005 + 1442695040888963407
	return int(s.word >> 33 % uint64(n))
}

// one is one of some.
func one[T any](s *stirrer, l []T) T { return l[s.below(len(l))] }

// many is a text so often, a separator between.
func many(s, between string, count int) string {
	return strings.Join(slices.Repeat([]string{s}, count), between)
}

// The chapter's grammar, as expressions. Each tells what is left of it behind a token, so that a text is wrong at the first token behind which nothing is left.

type expression interface {
	mayBeNone() bool                     // whether no token at all is one of what it means
	behind(t api.Token) expression       // what may follow on a token; nil, if it may not stand there
	drawn(s *stirrer, deep int) []string // one of what it means, token by token
}

// single is one token: which ones it may be, and some of these as they are written.
type single struct {
	may  func(t api.Token) bool
	some []string
}

func (e single) mayBeNone() bool { return false }

func (e single) behind(t api.Token) expression {
	if e.may(t) {
		return inTurn{}
	}
	return nil
}

func (e single) drawn(s *stirrer, deep int) []string { return []string{one(s, e.some)} }

// inTurn are expressions one behind the other.
type inTurn []expression

func (e inTurn) mayBeNone() bool {
	return !slices.ContainsFunc(e, func(part expression) bool { return !part.mayBeNone() })
}

func (e inTurn) behind(t api.Token) expression {
	var all oneOf
	for k, part := range e {
		if left := part.behind(t); left != nil {
			all = append(all, flat(left, e[k+1:]))
		}
		if !part.mayBeNone() {
			break
		}
	}
	return all.orNothing()
}

func (e inTurn) drawn(s *stirrer, deep int) []string {
	var l []string
	for _, part := range e {
		l = append(l, part.drawn(s, deep)...)
	}
	return l
}

// flat is an expression, and others behind it, none of which is nothing alone.
func flat(first expression, rest inTurn) expression {
	l, ok := first.(inTurn)
	if !ok {
		l = inTurn{first}
	}
	if l = slices.Concat(l, rest); len(l) == 1 {
		return l[0]
	}
	return l
}

// oneOf are expressions of which one stands there.
type oneOf []expression

func (e oneOf) mayBeNone() bool {
	return slices.ContainsFunc(e, func(part expression) bool { return part.mayBeNone() })
}

func (e oneOf) behind(t api.Token) expression {
	var all oneOf
	for _, part := range e {
		if left := part.behind(t); left != nil {
			all = append(all, left)
		}
	}
	return all.orNothing()
}

func (e oneOf) orNothing() expression {
	switch len(e) {
	case 0:
		return nil
	case 1:
		return e[0]
	}
	return e
}

// drawn is the last one, if many stand around: that one ends.
func (e oneOf) drawn(s *stirrer, deep int) []string {
	if deep > 6 {
		return e[len(e)-1].drawn(s, deep)
	}
	return one(s, e).drawn(s, deep)
}

// often is an expression as often as one likes.
type often struct{ expression }

func (e often) mayBeNone() bool { return true }

func (e often) behind(t api.Token) expression {
	if left := e.expression.behind(t); left != nil {
		return flat(left, inTurn{e})
	}
	return nil
}

func (e often) drawn(s *stirrer, deep int) []string {
	var l []string
	for range s.below(5) * s.below(2) {
		l = append(l, e.expression.drawn(s, deep)...)
	}
	return l
}

// rule is an expression by its name, as it may stand in itself.
type rule string

func (e rule) mayBeNone() bool { return e.meant().mayBeNone() }

func (e rule) behind(t api.Token) expression { return e.meant().behind(t) }

func (e rule) drawn(s *stirrer, deep int) []string { return e.meant().drawn(s, deep+1) }

func orNot(e ...expression) expression { return oneOf{inTurn(e), inTurn{}} }

// some are one, or more with a comma between.
func some(e expression) expression { return inTurn{e, often{inTurn{lit(","), e}}} }

// lit are words and signs as they stand, one behind the other.
func lit(s string) expression {
	var l inTurn
	for _, s := range strings.Fields(s) {
		l = append(l, single{func(t api.Token) bool { return (t.Kind == 1 || t.Kind == 4) && t.S == s }, []string{s}})
	}
	return flat(inTurn{}, l)
}

// anyOf is one of some words, or signs.
func anyOf(s string) expression {
	var l oneOf
	for _, s := range strings.Fields(s) {
		l = append(l, lit(s))
	}
	return l
}

// NAME, NUMBER and TEXT, and numbers from a least one to a most one.

func name() expression {
	return single{func(t api.Token) bool { return t.Kind == 1 && len(t.S) <= 16 && !slices.Contains(keywords, t.S) }, goodNames}
}

func numberOf(least, most int, some ...string) expression {
	return single{func(t api.Token) bool { return t.Kind == 2 && t.N >= least && t.N <= most }, some}
}

func number() expression {
	return numberOf(least, great, "0", "1", "7", "-1", "-5", "007", "-010", "16", "9223372036854775807", "-9223372036854775808")
}

func count() expression { return numberOf(0, great, "0", "1", "5", "16", "017", "9223372036854775807") }

func text() expression {
	return single{func(t api.Token) bool { return t.Kind == 3 }, []string{"''", "'x'", "'it''s'", "''''", "'a b'", "'select'", "'('", "','", "'early'", "'" + many("x", "", 32) + "'"}}
}

// rules are those that were asked for.
var rules = map[rule]expression{}

func (e rule) meant() expression {
	if rules[e] == nil {
		rules[e] = e.asItStands()
	}
	return rules[e]
}

// asItStands is what the chapter says that a rule is; of each list of ways none is of a kind that is said already.
func (e rule) asItStands() expression {
	switch e {
	case "statement":
		return oneOf{rule("select"), rule("create"), rule("project"), rule("drop"), rule("insert"), rule("delete"), rule("others")}
	case "select":
		return inTurn{lit("select"), oneOf{lit("*"), some(rule("item"))}, lit("from"), name(),
			orNot(lit("join"), name(), lit("on"), rule("col"), lit("="), rule("col")),
			orNot(lit("where"), rule("cond")),
			orNot(lit("group by"), some(rule("col"))),
			orNot(lit("order by"), some(rule("key"))),
			orNot(lit("limit"), count()),
			orNot(lit("at"), count()),
			orNot(lit("hint"), rule("ways "))}
	case "item":
		return oneOf{rule("col"), lit("count ( * )"), inTurn{anyOf("count sum min max"), lit("("), rule("col"), lit(")")}}
	case "col":
		return inTurn{name(), orNot(lit("."), name())}
	case "key":
		return inTurn{numberOf(1, 16, "1", "2", "9", "016"), orNot(lit("desc"))}
	case "cond":
		return inTurn{rule("both"), often{inTurn{lit("or"), rule("both")}}}
	case "both":
		return inTurn{rule("not"), often{inTurn{lit("and"), rule("not")}}}
	case "not":
		return oneOf{inTurn{lit("not"), rule("not")}, inTurn{lit("("), rule("cond"), lit(")")}, rule("test")}
	case "test":
		return oneOf{
			inTurn{rule("col"), anyOf("= <> < <= > >="), oneOf{number(), text(), rule("col")}},
			inTurn{rule("col"), lit("is"), orNot(lit("not")), lit("null")}}
	case "create":
		column := inTurn{name(), anyOf("int text"), orNot(lit("null"))}
		return inTurn{lit("create table"), name(), lit("("), some(column), lit(")")}
	case "project":
		return inTurn{lit("create projection"), name(), lit("on"), name(), lit("("), some(name()), lit(")"), orNot(lit("keys"), count())}
	case "drop":
		return oneOf{inTurn{lit("drop table"), name()}, inTurn{lit("drop projection"), name(), lit("on"), name()}}
	case "insert":
		row := inTurn{lit("("), some(oneOf{number(), text(), lit("null")}), lit(")")}
		return inTurn{lit("insert into"), name(), lit("values"), some(row)}
	case "delete":
		return inTurn{lit("delete from"), name(), orNot(lit("where"), rule("cond"))}
	case "others":
		return oneOf{lit("advance"), inTurn{lit("forget"), count()}, inTurn{lit("move"), name()}}
	}
	said, _ := strings.CutPrefix(string(e), "ways ")
	return waysMeant(said)
}

// wayKinds are the words of which one may be said, and no second one.
var wayKinds = []string{"using", "early late", "hash merge", "hashed sorted", "spans words places"}

// waysMeant are ways, behind those of some kinds, by their numbers.
func waysMeant(said string) expression {
	var l oneOf
	for k, words := range wayKinds {
		if strings.Contains(said, fmt.Sprint(k)) {
			continue
		}
		way := anyOf(words)
		if words == "using" {
			way = inTurn{lit(words), some(name())}
		}
		if said := said + fmt.Sprint(k); len(said) < len(wayKinds) {
			way = inTurn{way, orNot(rule("ways " + said))}
		}
		l = append(l, way)
	}
	return l
}

// Keywords are those of layer 29's chapter; good names are some at the edges of what they may be.
var (
	keywords  = strings.Fields("advance and at by count create delete desc drop forget from group hint insert int into is join keys limit max min move not null on or order projection select sum table text using values where")
	wayWords  = strings.Fields("early late hash merge hashed sorted spans words places")
	goodNames = append(strings.Fields("a b t u_1 z9_ selects nul super abcdefghijklmno abcdefghijklmnop q_______________"), wayWords...)
)

// firstWrong is where the first token begins with which no statement goes on; -1, if the tokens are one.
func firstWrong(l []api.Token) int {
	left := expression(rule("statement"))
	for _, t := range l[:len(l)-1] {
		if left = left.behind(t); left == nil {
			return t.At
		}
	}
	if !left.mayBeNone() {
		return l[len(l)-1].At
	}
	return -1
}

// tooMuch tells whether a statement has more than may be: lists are told by their commas, conds by what stands between and around them.
func tooMuch(l []api.Token) bool {
	type level struct{ commas, ands, ors, nots int }
	levels, deep, over := []level{{}}, 0, false
	for k, t := range l {
		top := &levels[len(levels)-1]
		most := 16
		if l[0].S == "insert" && len(levels) == 1 {
			most = 64
		}
		said := t.S
		if t.Kind == 3 {
			continue
		}
		switch said {
		case "select", "by", "using":
			top.commas = 0
		case ",":
			top.commas++
		case "and", "or", ")":
			deep -= top.nots
			top.nots = 0
		case "not":
			if l[k-1].S == "is" {
				continue
			}
			top.nots++
			deep++
		}
		switch said {
		case "and":
			top.ands++
		case "or":
			top.ands = 0
			top.ors++
		case "(":
			levels = append(levels, level{})
			deep++
		case ")":
			levels = levels[:len(levels)-1]
			deep--
		}
		over = over || top.commas+1 > most || top.ands+1 > 32 || top.ors+1 > 32 || deep > 16
	}
	return over
}

// meant is what Parse is to answer.
func meant(s string) (api.Statement, int, api.Errno) {
	l, at, errno := lex.Tokens(s)
	if errno != 0 {
		return api.Statement{}, at, errno
	}
	if at := firstWrong(l); at >= 0 {
		return api.Statement{}, at, 300
	}
	if tooMuch(l) {
		return api.Statement{}, 0, 4
	}
	return said(l[:len(l)-1]), 0, 0
}

// What tokens that are a statement say: they are cut where keywords, commas and parentheses stand.

// cut are the pieces between words, or signs, that stand in no parentheses.
func cut(l []api.Token, between string) [][]api.Token {
	pieces, deep := [][]api.Token{nil}, 0
	for _, t := range l {
		if t.Kind == 4 && t.S == "(" {
			deep++
		}
		if t.Kind == 4 && t.S == ")" {
			deep--
		}
		if deep == 0 && t.Kind != 3 && t.S == between {
			pieces = append(pieces, nil)
			continue
		}
		pieces[len(pieces)-1] = append(pieces[len(pieces)-1], t)
	}
	return pieces
}

// clauses are what stands behind keywords, up to the next one of them.
func clauses(l []api.Token, keywords string) map[string][]api.Token {
	m, last := map[string][]api.Token{}, ""
	for _, t := range l {
		if t.Kind == 1 && slices.Contains(strings.Fields(keywords), t.S) {
			last = t.S
			continue
		}
		m[last] = append(m[last], t)
	}
	return m
}

// of are what some tokens are, piece by piece; nil of none.
func of[T any](l []api.Token, piece func([]api.Token) T) []T {
	if len(l) == 0 {
		return nil
	}
	var all []T
	for _, part := range cut(l, ",") {
		all = append(all, piece(part))
	}
	return all
}

// within are the tokens in the parentheses from a place on.
func within(l []api.Token, from int) []api.Token {
	end := slices.IndexFunc(l[from:], func(t api.Token) bool { return t.Kind == 4 && t.S == ")" })
	return l[from+1 : from+end]
}

func said(l []api.Token) api.Statement {
	switch l[0].S + " " + l[min(1, len(l)-1)].S {
	case "create table":
		return api.Statement{Kind: 2, Table: l[2].S, At: l[2].At, Columns: of(within(l, 3), columnSaid)}
	case "drop table":
		return api.Statement{Kind: 3, Table: l[2].S, At: l[2].At}
	case "create projection":
		t := api.Statement{Kind: 4, Which: l[2].S, Table: l[4].S, At: l[4].At, Names: of(within(l, 5), nameSaid)}
		if l[len(l)-2].S == "keys" {
			t.Keys = l[len(l)-1].N
		}
		return t
	case "drop projection":
		return api.Statement{Kind: 5, Which: l[2].S, Table: l[4].S, At: l[4].At}
	case "insert into":
		return api.Statement{Kind: 6, Table: l[2].S, At: l[2].At, Rows: of(l[4:], rowSaid)}
	case "delete from":
		return api.Statement{Kind: 7, Table: l[2].S, At: l[2].At, Where: whereSaid(clauses(l, "where")["where"])}
	case "advance advance":
		return api.Statement{Kind: 8}
	case "forget ":
		return api.Statement{Kind: 9, Epoch: l[1].N}
	}
	if l[0].S == "move" {
		return api.Statement{Kind: 10, Table: l[1].S, At: l[1].At}
	}
	return api.Statement{Kind: 1, Select: selectSaid(l)}
}

func selectSaid(l []api.Token) api.Select {
	m := clauses(l, "select from join on where group order limit at hint")
	q := api.Select{From: m["from"][0].S, Limit: -1, Epoch: -1, Where: whereSaid(m["where"]), Hint: hintSaid(m["hint"])}
	q.At[0] = m["from"][0].At
	if q.Star = m["select"][0].S == "*"; !q.Star {
		q.Items = of(m["select"], itemSaid)
	}
	if join := m["join"]; join != nil {
		q.Join, q.At[1] = join[0].S, join[0].At
		sides := cut(m["on"], "=")
		q.On = [2]api.Name{nameSaid(sides[0]), nameSaid(sides[1])}
	}
	if group := m["group"]; group != nil {
		q.Group = of(group[1:], nameSaid)
	}
	if order := m["order"]; order != nil {
		q.Order = of(order[1:], func(l []api.Token) api.Key { return api.Key{Item: l[0].N - 1, Down: len(l) == 2, At: l[0].At} })
	}
	if limit := m["limit"]; limit != nil {
		q.Limit = limit[0].N
	}
	if at := m["at"]; at != nil {
		q.Epoch = at[0].N
	}
	return q
}

func nameSaid(l []api.Token) api.Name {
	if len(l) == 3 {
		return api.Name{Table: l[0].S, Column: l[2].S, At: l[0].At}
	}
	return api.Name{Column: l[0].S, At: l[0].At}
}

func itemSaid(l []api.Token) api.Item {
	agg := slices.Index([]string{"count", "sum", "min", "max"}, l[0].S)
	switch {
	case agg < 0:
		return api.Item{Name: nameSaid(l), At: l[0].At}
	case l[2].S == "*":
		return api.Item{Agg: 1, Star: true, At: l[0].At}
	}
	return api.Item{Agg: agg + 1, Name: nameSaid(l[2 : len(l)-1]), At: l[0].At}
}

func columnSaid(l []api.Token) api.Column {
	return api.Column{Name: l[0].S, Kind: map[string]int{"int": 1, "text": 2}[l[1].S], Null: len(l) == 3}
}

func cellSaid(t api.Token) api.Cell {
	switch t.Kind {
	case 2:
		return api.Cell{Kind: 1, N: t.N}
	case 3:
		return api.Cell{Kind: 2, S: t.S}
	}
	return api.Cell{}
}

func rowSaid(l []api.Token) api.Row {
	return of(l[1:len(l)-1], func(l []api.Token) api.Cell { return cellSaid(l[0]) })
}

// hintSaid goes over the ways; a word behind using, or a comma, is a name.
func hintSaid(l []api.Token) api.Hint {
	var h api.Hint
	for k, t := range l {
		if k > 0 && (l[k-1].S == "using" || l[k-1].S == ",") {
			h.Using = append(h.Using, t.S)
			continue
		}
		switch n := slices.Index(wayWords, t.S) + 1; {
		case n >= 7:
			h.Form = n
		case n >= 5:
			h.Group = n
		case n >= 3:
			h.Join = n
		case n >= 1:
			h.Late = n
		}
	}
	return h
}

func whereSaid(l []api.Token) api.Cond {
	if len(l) == 0 {
		return api.Cond{}
	}
	return condSaid(l)
}

func condSaid(l []api.Token) api.Cond {
	if pieces := cut(l, "or"); len(pieces) > 1 {
		return partsSaid(4, pieces)
	}
	if pieces := cut(l, "and"); len(pieces) > 1 {
		return partsSaid(3, pieces)
	}
	switch l[0].S {
	case "not":
		return api.Cond{Kind: 5, Args: []api.Cond{condSaid(l[1:])}, At: l[0].At}
	case "(":
		return condSaid(l[1 : len(l)-1])
	}
	return testSaid(l)
}

func partsSaid(kind int, pieces [][]api.Token) api.Cond {
	c := api.Cond{Kind: kind}
	for _, piece := range pieces {
		c.Args = append(c.Args, condSaid(piece))
	}
	c.At = c.Args[0].At
	return c
}

func testSaid(l []api.Token) api.Cond {
	names := 1
	if l[1].S == "." {
		names = 3
	}
	left, right := nameSaid(l[:names]), l[names+1:]
	op := slices.Index([]string{"=", "<>", "<", "<=", ">", ">="}, l[names].S) + 1
	switch {
	case op == 0:
		return api.Cond{Kind: 1, Test: 6 + len(right), Left: left, At: left.At}
	case right[0].Kind == 1:
		return api.Cond{Kind: 2, Test: op, Left: left, Right: nameSaid(right), At: left.At}
	}
	return api.Cond{Kind: 1, Test: op, Left: left, Val: cellSaid(right[0]), At: left.At}
}

// What Text is to answer of a statement that Parse gives.

func textMeant(t api.Statement) string {
	switch t.Kind {
	case 1:
		return selectText(t.Select)
	case 2:
		return "create table " + t.Table + " ( " + texts(t.Columns, columnText) + " )"
	case 3:
		return "drop table " + t.Table
	case 4:
		return "create projection " + t.Which + " on " + t.Table + " ( " + texts(t.Names, nameText) + " )" + numberText(" keys ", t.Keys, t.Keys != 0)
	case 5:
		return "drop projection " + t.Which + " on " + t.Table
	case 6:
		return "insert into " + t.Table + " values " + texts(t.Rows, func(r api.Row) string { return "( " + texts(r, cellText) + " )" })
	case 7:
		return "delete from " + t.Table + whereText(t.Where)
	case 8:
		return "advance"
	case 9:
		return fmt.Sprintf("forget %d", t.Epoch)
	}
	return "move " + t.Table
}

func texts[T any](l []T, one func(T) string) string {
	var all []string
	for _, x := range l {
		all = append(all, one(x))
	}
	return strings.Join(all, " , ")
}

// numberText is a word and a number, if that is said.
func numberText(word string, n int, said bool) string {
	if !said {
		return ""
	}
	return word + fmt.Sprint(n)
}

func selectText(q api.Select) string {
	s := "select " + texts(q.Items, itemText)
	if q.Star {
		s += "*"
	}
	s += " from " + q.From
	if q.Join != "" {
		s += " join " + q.Join + " on " + nameText(q.On[0]) + " = " + nameText(q.On[1])
	}
	s += whereText(q.Where)
	if q.Group != nil {
		s += " group by " + texts(q.Group, nameText)
	}
	if q.Order != nil {
		s += " order by " + texts(q.Order, keyText)
	}
	return s + numberText(" limit ", q.Limit, q.Limit != -1) + numberText(" at ", q.Epoch, q.Epoch != -1) + hintText(q.Hint)
}

func nameText(n api.Name) string {
	if n.Table == "" {
		return n.Column
	}
	return n.Table + " . " + n.Column
}

func itemText(i api.Item) string {
	inner := nameText(i.Name)
	switch {
	case i.Agg == 0:
		return inner
	case i.Star:
		inner = "*"
	}
	return []string{"", "count", "sum", "min", "max"}[i.Agg] + " ( " + inner + " )"
}

func keyText(k api.Key) string {
	if k.Down {
		return fmt.Sprintf("%d desc", k.Item+1)
	}
	return fmt.Sprint(k.Item + 1)
}

func columnText(c api.Column) string {
	s := c.Name + " " + []string{"", "int", "text"}[c.Kind]
	if c.Null {
		s += " null"
	}
	return s
}

func cellText(c api.Cell) string {
	switch c.Kind {
	case 1:
		return fmt.Sprint(c.N)
	case 2:
		return "'" + strings.ReplaceAll(c.S, "'", "''") + "'"
	}
	return "null"
}

func whereText(c api.Cond) string {
	if c.Kind == 0 {
		return ""
	}
	return " where " + condText(c)
}

func condText(c api.Cond) string {
	var parts []string
	for _, part := range c.Args {
		s := condText(part)
		switch [2]int{part.Kind, c.Kind} {
		case [2]int{3, 3}, [2]int{4, 3}, [2]int{3, 5}, [2]int{4, 5}, [2]int{4, 4}:
			s = "( " + s + " )"
		}
		parts = append(parts, s)
	}
	op := []string{"", "=", "<>", "<", "<=", ">", ">=", "is null", "is not null"}[c.Test]
	switch c.Kind {
	case 1:
		if c.Test >= 7 {
			return nameText(c.Left) + " " + op
		}
		return nameText(c.Left) + " " + op + " " + cellText(c.Val)
	case 2:
		return nameText(c.Left) + " " + op + " " + nameText(c.Right)
	case 3:
		return strings.Join(parts, " and ")
	case 4:
		return strings.Join(parts, " or ")
	}
	return "not " + parts[0]
}

func hintText(h api.Hint) string {
	var l []string
	if h.Using != nil {
		l = append(l, "using "+strings.Join(h.Using, " , "))
	}
	for _, n := range []int{h.Late, h.Join, h.Group, h.Form} {
		if n != 0 {
			l = append(l, wayWords[n-1])
		}
	}
	if l == nil {
		return ""
	}
	return " hint " + strings.Join(l, " ")
}

// bare is a statement in new memory, each At of it 0.
func bare(t api.Statement) api.Statement {
	t.At, t.Select.At = 0, [2]int{}
	t.Names, t.Where = bareNames(t.Names), bareCond(t.Where)
	q := &t.Select
	q.On, q.Group, q.Where = [2]api.Name(bareNames(q.On[:])), bareNames(q.Group), bareCond(q.Where)
	q.Items, q.Order = slices.Clone(q.Items), slices.Clone(q.Order)
	for k := range q.Items {
		q.Items[k].At, q.Items[k].Name.At = 0, 0
	}
	for k := range q.Order {
		q.Order[k].At = 0
	}
	return t
}

func bareNames(l []api.Name) []api.Name {
	l = slices.Clone(l)
	for k := range l {
		l[k].At = 0
	}
	return l
}

func bareCond(c api.Cond) api.Cond {
	c.At, c.Left.At, c.Right.At = 0, 0, 0
	c.Args = slices.Clone(c.Args)
	for k := range c.Args {
		c.Args[k] = bareCond(c.Args[k])
	}
	return c
}

// short is a text, or its beginning, if it is too long to be told.
func short(s string) string {
	if len(s) > 1500 {
		return s[:1500] + " and more"
	}
	return s
}

// answers fails if Parse of a text does not answer what is wanted.
func answers(t *testing.T, s string, want api.Statement, at int, errno api.Errno) {
	t.Helper()
	got, gotAt, gotErrno := Parse(s)
	if !reflect.DeepEqual(got, want) || gotAt != at || gotErrno != errno {
		t.Errorf("Parse(%q), %d bytes: %s, %d, %d; wanted %s, %d, %d", short(s), len(s), told(got), gotAt, gotErrno, told(want), at, errno)
	}
}

// told is a statement as it is told when a test fails.
func told(t api.Statement) string {
	if reflect.DeepEqual(t, api.Statement{}) {
		return "none"
	}
	return short(fmt.Sprintf("%+v", t))
}

// wrongAt fails if a text is not told to be wrong where a mark, which is left out, stands in it.
func wrongAt(t *testing.T, s string) {
	t.Helper()
	ahead, behind, _ := strings.Cut(s, "^")
	answers(t, ahead+behind, api.Statement{}, len(ahead), 300)
}

// tooLarge fails if a text is not told to have more than may be.
func tooLarge(t *testing.T, s string) {
	t.Helper()
	answers(t, s, api.Statement{}, 0, 4)
}

// right fails if a text is told to be wrong, or to have more than may be, or if it does not say what the chapter means.
func right(t *testing.T, s string) api.Statement {
	t.Helper()
	asMeant(t, s)
	got, at, errno := Parse(s)
	if errno != 0 {
		t.Errorf("Parse(%q), %d bytes: %d, %d", short(s), len(s), at, errno)
	}
	return got
}

// asMeant fails if Parse, and Text of what it gives, do not answer what the chapter means.
func asMeant(t *testing.T, s string) {
	t.Helper()
	want, at, errno := meant(s)
	answers(t, s, want, at, errno)
	if errno == 0 {
		printed(t, want)
	}
}

// printed fails if Text of a statement is not its tokens, or is not parsed as the same, and as text again.
func printed(t *testing.T, want api.Statement) {
	t.Helper()
	s := textMeant(want)
	if got := Text(want); got != s {
		t.Errorf("Text(%+v): %q; wanted %q", want, got, s)
	}
	again, at, errno := Parse(s)
	if len(s) > mostBytes {
		if !reflect.DeepEqual(again, api.Statement{}) || at != 0 || errno != 4 {
			t.Errorf("Parse(%q), %d bytes: %+v, %d, %d", short(s), len(s), again, at, errno)
		}
		return
	}
	if !reflect.DeepEqual(bare(again), bare(want)) || at != 0 || errno != 0 {
		t.Errorf("Parse(%q): %+v, %d, %d; wanted %+v", s, bare(again), at, errno, bare(want))
	}
	if got := Text(again); got != s {
		t.Errorf("Text again: %q; wanted %q", got, s)
	}
}
