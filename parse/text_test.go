package parse

import (
	"peristyle/api"
	"peristyle/cell"
	"reflect"
	"strings"
	"testing"
)

// says fails if Text of what a text says is not as wanted.
func says(t *testing.T, s, want string) {
	t.Helper()
	if got := Text(right(t, s)); got != want {
		t.Errorf("Text of %q: %q; wanted %q", s, got, want)
	}
}

func TestTextOfEachKind(t *testing.T) {
	for s, want := range map[string]string{
		"select*from t": "select * from t",
		"select a,t.b , count( * ) , sum(a),min(t.b),max(c),count(d)from t":              "select a , t . b , count ( * ) , sum ( a ) , min ( t . b ) , max ( c ) , count ( d ) from t",
		"select a from t join u on t.a=b":                                                "select a from t join u on t . a = b",
		"select a from t where a<>-007 group by b,t.c order by 016 desc,2 limit 0 at 00": "select a from t where a <> -7 group by b , t . c order by 16 desc , 2 limit 0 at 0",
		"select a from t limit 9223372036854775807 at 0009223372036854775807":            "select a from t limit 9223372036854775807 at 9223372036854775807",
		"select a from t hint words using q,p sorted hash early":                         "select a from t hint using q , p early hash sorted words",
		"select a from t hint spans late":                                                "select a from t hint late spans",
		"select a from t hint places hashed merge":                                       "select a from t hint merge hashed places",
		"select a from t hint using early early":                                         "select a from t hint using early early",
		"create table t(a int,b text null,c int null,d text)":                            "create table t ( a int , b text null , c int null , d text )",
		"create projection p on t(a,b)keys 02":                                           "create projection p on t ( a , b ) keys 2",
		"create projection p on t(a,b)":                                                  "create projection p on t ( a , b )",
		"create projection p on t(a,b)keys 0":                                            "create projection p on t ( a , b )",
		"drop  table t":                                                                  "drop table t",
		"drop projection p\non t":                                                        "drop projection p on t",
		"insert into t values(1,-02,'it''s',''''),(null,000,''),( 'a b' )":               "insert into t values ( 1 , -2 , 'it''s' , '''' ) , ( null , 0 , '' ) , ( 'a b' )",
		"insert into t values(-9223372036854775808,9223372036854775807)":                 "insert into t values ( -9223372036854775808 , 9223372036854775807 )",
		"delete from t": "delete from t",
		"delete from t where a is null or t.b is not null and c>=d.e": "delete from t where a is null or t . b is not null and c >= d . e",
		"advance":    "advance",
		"forget 007": "forget 7",
		"move t":     "move t",
	} {
		says(t, s, want)
		says(t, want, want)
	}
}

// An and, and an or, below an and or a not, and an or below an or, are in parentheses, and none besides.
func TestParentheses(t *testing.T) {
	for s, want := range map[string]string{
		"((a=1))":                          "a = 1",
		"not((a=1))":                       "not a = 1",
		"(not(not(a=1)))":                  "not not a = 1",
		"(a=1)and(b=1)":                    "a = 1 and b = 1",
		"(a=1)or(b=1)":                     "a = 1 or b = 1",
		"(a=1 and b=1)or c=1":              "a = 1 and b = 1 or c = 1",
		"a=1 or((b=1 and c=1))":            "a = 1 or b = 1 and c = 1",
		"(a=1 and b=1)and c=1":             "( a = 1 and b = 1 ) and c = 1",
		"a=1 and((b=1 and c=1))":           "a = 1 and ( b = 1 and c = 1 )",
		"(a=1 or b=1)and c=1":              "( a = 1 or b = 1 ) and c = 1",
		"a=1 and(b=1 or c=1)":              "a = 1 and ( b = 1 or c = 1 )",
		"(a=1 or b=1)or c=1":               "( a = 1 or b = 1 ) or c = 1",
		"a=1 or(b=1 or c=1)":               "a = 1 or ( b = 1 or c = 1 )",
		"not(a=1 and b=1)":                 "not ( a = 1 and b = 1 )",
		"not(a=1 or b=1)":                  "not ( a = 1 or b = 1 )",
		"(not a=1)and b=1":                 "not a = 1 and b = 1",
		"(not a=1)or(not(b=1))":            "not a = 1 or not b = 1",
		"not(not(a=1 or b=1))":             "not not ( a = 1 or b = 1 )",
		"((a=1 or b=1)and c=1)or d=1":      "( a = 1 or b = 1 ) and c = 1 or d = 1",
		"not((a=1 and b=1)or c=1)and d=1":  "not ( a = 1 and b = 1 or c = 1 ) and d = 1",
		"((a=1 or b=1)or(c=1 or d=1))":     "( a = 1 or b = 1 ) or ( c = 1 or d = 1 )",
		"(a=1 and(b=1 and(c=1 or d=1)))":   "a = 1 and ( b = 1 and ( c = 1 or d = 1 ) )",
		"(((a=1)and(b=1)))or(((c=1)))":     "a = 1 and b = 1 or c = 1",
		"(a is null)and((not(b is null)))": "a is null and not b is null",
	} {
		says(t, "select a from t where "+s, "select a from t where "+want)
		says(t, "delete from t where "+s, "delete from t where "+want)
	}
}

// fullConds are conds so deep at most, everything in parentheses, and how many parentheses they need at least.
func fullConds(deep int) []string {
	l := []string{"a=1"}
	if deep == 0 {
		return l
	}
	below := fullConds(deep - 1)
	for _, a := range below {
		l = append(l, "not("+a+")")
		for _, b := range below {
			l = append(l, "("+a+")and("+b+")", "("+a+")or("+b+")")
		}
	}
	return l
}

// Each pair of parentheses that Text says is needed: without it, it is another statement, or none.
func TestNoParenthesesBesides(t *testing.T) {
	for _, s := range fullConds(2) {
		for _, s := range []string{s, "not(" + s + ")", "(" + s + ")and(b=1 or c=1)", "b=1 or(" + s + ")or c=1"} {
			want := right(t, "delete from t where "+s)
			text := Text(want)
			for _, pair := range pairsOf(text) {
				less := text[:pair[0]] + " " + text[pair[0]+1:pair[1]] + " " + text[pair[1]+1:]
				if got, _, errno := Parse(less); errno == 0 && reflect.DeepEqual(bare(got), bare(want)) {
					t.Errorf("%q says the same as %q", less, text)
				}
			}
		}
	}
}

// pairsOf are where a text's parentheses stand, two by two.
func pairsOf(s string) [][2]int {
	var pairs [][2]int
	var open []int
	for at, b := range []byte(s) {
		switch b {
		case '(':
			open = append(open, at)
		case ')':
			pairs = append(pairs, [2]int{open[len(open)-1], at})
			open = open[:len(open)-1]
		}
	}
	return pairs
}

// Numbers and texts are as layer 6 shows them.
func TestTextOfCells(t *testing.T) {
	for _, n := range someNumbers {
		shown := cell.Show(intCell(n))
		says(t, "insert into t values("+shown+")", "insert into t values ( "+shown+" )")
		says(t, "delete from t where a<"+shown, "delete from t where a < "+shown)
	}
	for _, text := range []string{"", "'", "''", "it's", "'a'", " ", "  a  ", "null", "and", "(", "1", "-5", "\n\t", "\x00\xff", ";", many("'", "", 32), many("x", "", 32)} {
		shown := cell.Show(textCell(text))
		says(t, "insert into t values("+shown+")", "insert into t values ( "+shown+" )")
		says(t, "delete from t where a="+shown+" or b=1", "delete from t where a = "+shown+" or b = 1")
	}
}

// A text that becomes too long by its blanks is still the statement's tokens; shorter ones are parsed as the same.
func TestTextThatIsTooLong(t *testing.T) {
	for _, s := range []string{
		"insert into t values" + many("(1,2,3,4,5)", ",", 64),
		"insert into t values" + many("(1,'',null)", ",", 64),
		"select a from t where " + many("a=1and(b=1and c=1)", "or ", 32),
		"delete from t where " + many("((((((((((a=1and b=1))))))))))", "or ", 30),
		"delete from t where " + many("not(not(a=1or b=1))", "and ", 32),
	} {
		statement := right(t, s)
		text := Text(statement)
		if text != textMeant(statement) {
			t.Errorf("%q: %q", s, text)
		}
		if got, want := strings.Fields(text), tokensOf(t, s); len(text) > mostBytes && !isPart(got, want) {
			t.Errorf("%q: %q", s, text)
		}
	}
	for count := 1; count <= 16; count++ {
		row := "(" + many("1", ",", count) + ")"
		for rows := 1; rows <= 64; rows++ {
			if s := "insert into t values" + many(row, ",", rows); len(s) <= mostBytes {
				right(t, s)
			}
		}
	}
}

// isPart tells whether tokens are among others, in their order.
func isPart(l, whole []string) bool {
	for _, token := range whole {
		if len(l) > 0 && l[0] == token {
			l = l[1:]
		}
	}
	return len(l) == 0
}

// What is drawn from the grammar, of any spacing, is what the chapter means, and is printed, and parsed as the same.
func TestDrawnStatements(t *testing.T) {
	s := stir(2)
	kinds := map[int]int{}
	for k := range 20000 {
		from := rule("statement")
		if k%3 == 0 {
			from = one(s, []rule{"select", "delete", "insert", "project"})
		}
		tokens := from.drawn(s, 0)
		text := spaced(s, tokens)
		if len(text) > mostBytes {
			text = strings.Join(tokens, " ")
		}
		asMeant(t, text)
		if got, _, errno := Parse(text); errno == 0 {
			kinds[got.Kind]++
		} else if errno != 4 {
			t.Errorf("Parse(%q): %d", text, errno)
		}
	}
	for kind := 1; kind <= 10; kind++ {
		if kinds[kind] < 300 {
			t.Errorf("of kind %d: %d", kind, kinds[kind])
		}
	}
}

// Text says tokens of the text that was parsed, in their order, and a blank between: of hints alone the order may be another one.
func TestTextIsTokens(t *testing.T) {
	s := stir(3)
	for range 5000 {
		tokens := one(s, []rule{"select", "delete", "create", "insert"}).drawn(s, 0)
		text := strings.Join(tokens, " ")
		statement, _, errno := Parse(text)
		if errno != 0 || !reflect.DeepEqual(statement.Select.Hint, api.Hint{}) {
			continue
		}
		for k, token := range tokens {
			tokens[k] = shorn(token)
		}
		if got := Text(statement); !isPart(strings.Split(got, " "), strings.Split(strings.Join(tokens, " "), " ")) {
			t.Errorf("Text of %q: %q", text, got)
		}
	}
}

// shorn is a number without the noughts ahead of it; others as they are.
func shorn(s string) string {
	digits := strings.TrimPrefix(s, "-")
	if strings.Trim(digits, "0123456789") != "" || digits == "" {
		return s
	}
	bare := strings.TrimLeft(digits, "0")
	if bare == "" {
		bare = "0"
	}
	return s[:len(s)-len(digits)] + bare
}
