package parse

import (
	"peristyle/api"
	"peristyle/lex"
	"reflect"
	"regexp"
	"slices"
	"strings"
	"testing"
)

func intCell(n int) api.Cell { return api.Cell{Kind: 1, N: n} }

func textCell(s string) api.Cell { return api.Cell{Kind: 2, S: s} }

func nameAt(at int, column string) api.Name { return api.Name{Column: column, At: at} }

func nameOf(at int, table, column string) api.Name {
	return api.Name{Table: table, Column: column, At: at}
}

// selected is the statement of a select that does not say its limit and its epoch.
func selected(q api.Select) api.Statement {
	q.Limit, q.Epoch = -1, -1
	return api.Statement{Kind: 1, Select: q}
}

// where is the condition of a select that Parse gives of a text.
func where(t *testing.T, cond string) api.Cond {
	t.Helper()
	return right(t, "select a from t where "+cond).Select.Where
}

// The chapter's example.
func TestExample(t *testing.T) {
	isNull := api.Cond{Kind: 1, Test: 7, Left: nameAt(35, "b"), At: 35}
	answers(t, "select a from t where a = 1 or not b is null", selected(api.Select{
		Items: []api.Item{{Name: nameAt(7, "a"), At: 7}},
		From:  "t",
		At:    [2]int{14, 0},
		Where: api.Cond{Kind: 4, At: 22, Args: []api.Cond{
			{Kind: 1, Test: 1, Left: nameAt(22, "a"), Val: intCell(1), At: 22},
			{Kind: 5, At: 31, Args: []api.Cond{isNull}},
		}},
	}), 0, 0)
	right(t, "select a from t where a = 1 or not b is null")
}

// Each kind of statement, field by field.

func TestSelect(t *testing.T) {
	s := "select a, t.b ,count(*), count(c),sum(u.d), min(e), max(f) from t join u on t.a=b where a<>'x' group by a, t.b order by 2 desc, 16,1 limit 5 at 3 hint using p, q late merge sorted words"
	answers(t, s, api.Statement{Kind: 1, Select: api.Select{
		Items: []api.Item{
			{Name: nameAt(7, "a"), At: 7},
			{Name: nameOf(10, "t", "b"), At: 10},
			{Agg: 1, Star: true, At: 15},
			{Agg: 1, Name: nameAt(31, "c"), At: 25},
			{Agg: 2, Name: nameOf(38, "u", "d"), At: 34},
			{Agg: 3, Name: nameAt(48, "e"), At: 44},
			{Agg: 4, Name: nameAt(56, "f"), At: 52},
		},
		From:  "t",
		Join:  "u",
		On:    [2]api.Name{nameOf(76, "t", "a"), nameAt(80, "b")},
		At:    [2]int{64, 71},
		Where: api.Cond{Kind: 1, Test: 2, Left: nameAt(88, "a"), Val: textCell("x"), At: 88},
		Group: []api.Name{nameAt(104, "a"), nameOf(107, "t", "b")},
		Order: []api.Key{{Item: 1, Down: true, At: 120}, {Item: 15, At: 128}, {Item: 0, At: 131}},
		Limit: 5,
		Epoch: 3,
		Hint:  api.Hint{Using: []string{"p", "q"}, Late: 2, Join: 4, Group: 6, Form: 8},
	}}, 0, 0)
	right(t, s)
	answers(t, "select * from t", selected(api.Select{Star: true, From: "t", At: [2]int{14, 0}}), 0, 0)
	answers(t, "\n select\t*\r\nfrom  t ", selected(api.Select{Star: true, From: "t", At: [2]int{18, 0}}), 0, 0)
	answers(t, "select*from t limit 0 at 0", api.Statement{Kind: 1, Select: api.Select{Star: true, From: "t", At: [2]int{12, 0}}}, 0, 0)
}

func TestCreateTable(t *testing.T) {
	answers(t, "create table t ( a int , b text null,c int null ,d text )", api.Statement{Kind: 2, Table: "t", At: 13, Columns: []api.Column{
		{Name: "a", Kind: 1}, {Name: "b", Kind: 2, Null: true}, {Name: "c", Kind: 1, Null: true}, {Name: "d", Kind: 2},
	}}, 0, 0)
}

func TestDropTable(t *testing.T) {
	answers(t, "drop  table\tt", api.Statement{Kind: 3, Table: "t", At: 12}, 0, 0)
}

func TestCreateProjection(t *testing.T) {
	answers(t, "create projection p on t(b, a)keys 007", api.Statement{Kind: 4, Which: "p", Table: "t", At: 23, Keys: 7, Names: []api.Name{nameAt(25, "b"), nameAt(28, "a")}}, 0, 0)
	for _, s := range []string{"create projection p on t(b)", "create projection p on t(b)keys 0"} {
		answers(t, s, api.Statement{Kind: 4, Which: "p", Table: "t", At: 23, Names: []api.Name{nameAt(25, "b")}}, 0, 0)
	}
}

func TestDropProjection(t *testing.T) {
	answers(t, "drop projection p on t", api.Statement{Kind: 5, Which: "p", Table: "t", At: 21}, 0, 0)
}

func TestInsert(t *testing.T) {
	answers(t, "insert into t values(1,'it''s',null),( -007 ),(null,''),('null',0)", api.Statement{Kind: 6, Table: "t", At: 12, Rows: []api.Row{
		{intCell(1), textCell("it's"), {}}, {intCell(-7)}, {{}, textCell("")}, {textCell("null"), intCell(0)},
	}}, 0, 0)
}

func TestDelete(t *testing.T) {
	answers(t, "delete from t", api.Statement{Kind: 7, Table: "t", At: 12}, 0, 0)
	answers(t, "delete from  t where a.b >= c.d", api.Statement{Kind: 7, Table: "t", At: 13, Where: api.Cond{Kind: 2, Test: 6, Left: nameOf(21, "a", "b"), Right: nameOf(28, "c", "d"), At: 21}}, 0, 0)
}

func TestOthers(t *testing.T) {
	answers(t, " advance ", api.Statement{Kind: 8}, 0, 0)
	answers(t, " forget 7", api.Statement{Kind: 9, Epoch: 7}, 0, 0)
	answers(t, "forget 0", api.Statement{Kind: 9}, 0, 0)
	answers(t, "forget 9223372036854775807", api.Statement{Kind: 9, Epoch: great}, 0, 0)
	answers(t, " move t", api.Statement{Kind: 10, Table: "t", At: 6}, 0, 0)
}

// Where what is said begins, with blanks of each kind and none between tokens.

func TestAtOfConds(t *testing.T) {
	c := where(t, "((a=1))or((b=1 and not(c=1 or\td.d=1)))")
	if c.Kind != 4 || c.At != 24 || c.Args[0].At != 24 {
		t.Errorf("%+v", c)
	}
	and := c.Args[1]
	if and.Kind != 3 || and.At != 33 || and.Args[0].At != 33 {
		t.Errorf("%+v", and)
	}
	not := and.Args[1]
	if or := not.Args[0]; not.Kind != 5 || not.At != 41 || or.Kind != 4 || or.At != 45 || or.Args[1].At != 52 || or.Args[1].Left.At != 52 {
		t.Errorf("%+v", not)
	}
	if c := where(t, "(((a=1 or b=1)))and not\n\nnot(a=b)"); c.Kind != 3 || c.At != 25 || c.Args[0].At != 25 || c.Args[1].At != 42 || c.Args[1].Args[0].At != 47 || c.Args[1].Args[0].Args[0].At != 51 {
		t.Errorf("%+v", c)
	}
	if c := where(t, "not a = 1 and b = 1"); c.Kind != 3 || c.At != 22 || c.Args[0].Kind != 5 || c.Args[0].Args[0].At != 26 {
		t.Errorf("%+v", c)
	}
}

// manyStatements are statements of each kind, each with what may stand in it, there and not.
func manyStatements() []string {
	return []string{
		"select * from t",
		"select a from t",
		"select t . a , b from t",
		"select count ( * ) from t",
		"select count ( a ) , sum ( t . b ) , min ( c ) , max ( u . d ) from t",
		"select a , count ( * ) from t group by a",
		"select * from t join u on a = b",
		"select * from t join u on t . a = u . b where t . a = 1",
		"select a from t where a = 1",
		"select a from t where t . a <> 'it''s'",
		"select a from t where a < b",
		"select a from t where a <= t . b",
		"select a from t where t . a > -5",
		"select a from t where a >= 007",
		"select a from t where a is null",
		"select a from t where t . a is not null",
		"select a from t where not a = 1",
		"select a from t where not not a is null",
		"select a from t where ( a = 1 )",
		"select a from t where ( ( not ( a = 1 ) ) )",
		"select a from t where a = 1 and b = 2",
		"select a from t where a = 1 or b = 2 or c = 3",
		"select a from t where a = 1 and b = 2 or c = 3 and d = 4",
		"select a from t where ( a = 1 or b = 2 ) and ( c = 3 or d = 4 )",
		"select a from t where not ( a = 1 and b = 2 ) or not c = 3",
		"select a from t group by a , t . b",
		"select a from t order by 1",
		"select a from t order by 2 desc , 1 , 16 desc",
		"select a from t limit 5",
		"select a from t at 3",
		"select a from t limit 5 at 3",
		"select a from t hint using p",
		"select a from t hint using p , q , early early",
		"select a from t hint late merge sorted words using p",
		"select a , sum ( b ) from t join u on a = b where c = 1 group by a order by 1 desc limit 5 at 3 hint hash",
		"create table t ( a int )",
		"create table t ( a int null , b text , c text null )",
		"create projection p on t ( a )",
		"create projection p on t ( b , a ) keys 1",
		"drop table t",
		"drop projection p on t",
		"insert into t values ( 1 )",
		"insert into t values ( 1 , 'it''s' , null ) , ( -2 , '' ) , ( null )",
		"delete from t",
		"delete from t where a = 1 and not ( b is null or c < d )",
		"advance",
		"forget 7",
		"move t",
	}
}

// someBlanks are what may stand between tokens, and nothing.
var someBlanks = []string{" ", " ", "", "", "\t", "\n", "\r", "\r\n", " \t\n\r ", "     "}

// aloneBeside tells whether two tokens are two also if no blank stands between.
func aloneBeside(a, b string) bool {
	l, _, errno := lex.Tokens(a + b)
	first, _, _ := lex.Tokens(a)
	second, _, _ := lex.Tokens(b)
	if errno != 0 || len(l) != 3 {
		return false
	}
	l[1].At = 0
	return l[0] == first[0] && l[1] == second[0]
}

// spaced are tokens with blanks between, or none, where they stay what they are.
func spaced(s *stirrer, tokens []string) string {
	text := one(s, someBlanks)
	for k, token := range tokens {
		text += token
		between := one(s, someBlanks)
		if between == "" && k+1 < len(tokens) && !aloneBeside(token, tokens[k+1]) {
			between = " "
		}
		text += between
	}
	return text
}

func TestBlanksBetweenTokens(t *testing.T) {
	s := stir(1)
	for _, text := range manyStatements() {
		right(t, text)
		// Texts are in one piece, as blanks in them are their own.
		if strings.Contains(text, "' '") {
			continue
		}
		for range 20 {
			right(t, spaced(s, strings.Fields(text)))
		}
	}
}

// The grammar, rule by rule: what is right, and where what is not is wrong.

func TestItems(t *testing.T) {
	for _, s := range []string{"*", "a", "t.a", "a,b", "a,t.b,c,u.d", "count(*)", "count(a)", "count(t.a)", "sum(a)", "sum(t.a)", "min(a)", "max(t.a)", "count(*),count(*),a,sum(a)", "early,late", "a,a,a"} {
		right(t, "select "+s+" from t")
	}
	for _, s := range []string{
		"select  ^from t", "select *^,a from t", "select a,^* from t", "select * ^* from t", "select *^* from t", "select a^* from t", "select *^a from t",
		"select a ^b from t", "select a, ^from t", "select ^,a from t", "select a,^,b from t", "select a. ^from t", "select ^.a from t",
		"select a.^.b from t", "select a.b^.c from t", "select a.^* from t", "select a.^1 from t", "select ^1 from t", "select ^'a' from t",
		"select ^(a) from t", "select count ^from t", "select count ^a from t", "select count^.a from t", "select count(^) from t",
		"select count( ^from t", "select count(* ^from t", "select count(a ^from t", "select count(^1) from t", "select count(*^*) from t",
		"select count(*^,a) from t", "select count(a^,b) from t", "select count(a ^b) from t", "select count(^(a)) from t",
		"select count(^count(a)) from t", "select sum ^from t", "select sum(^*) from t", "select sum(^) from t", "select sum(^1) from t",
		"select min(^*) from t", "select max(^*) from t", "select min ^from t", "select max ^a from t", "select a^=1 from t", "select ^null from t",
		"select ^not a from t", "select count(a.^) from t", "select count(^.a) from t", "select count^) from t", "select a^) from t",
		"select avg^(a) from t", "select sum(a)^) from t",
	} {
		wrongAt(t, s)
	}
	for _, s := range []string{"a", "a,b", "count(*)", "*"} {
		for _, behind := range []string{"^", " ^t", " ^'from' t", " from^", " from ^from t", " from ^select", " from t^,u", " from t ^u", " from t^.u", " from ^'t'", " from ^1", " from ^(t)", " from ^*"} {
			wrongAt(t, "select "+s+behind)
		}
	}
}

// A point may stand behind one name, ahead of one other one.
func TestNamesWithTables(t *testing.T) {
	for _, s := range []string{"select # from t", "select a,# from t", "select sum(#) from t", "select a from t join u on #=a", "select a from t join u on a=#", "select a from t where #=1", "select a from t where a=#", "select a from t where # is null", "select a from t where a=1 and not(#<2)", "select a from t group by #", "select a from t group by a,#"} {
		for _, name := range []string{"b", "b.c", "b .c", "b. c", "b\n.\tc"} {
			right(t, strings.Replace(s, "#", name, 1))
		}
		for _, name := range []string{"^.c", "^.", "b.^.c", "b.^1", "b.^'c'", "b.^*", "b.^(c)", "b.^select"} {
			wrongAt(t, strings.Replace(s, "#", name, 1))
		}
		for _, name := range []string{"b.", "b.c.d", "1.b", "b c", "b.c d"} {
			asMeant(t, strings.Replace(s, "#", name, 1))
		}
	}
}

func TestJoin(t *testing.T) {
	right(t, "select * from t join u on a=b")
	right(t, "select * from t join u on t.a=u.b")
	right(t, "select * from t join t on a=a")
	for _, s := range []string{
		"join^", "join u^", "join u on^", "join u on a^", "join u on a=^", "join ^on a=b", "join u ^a=b", "join u^,v on a=b", "join u on a ^b",
		"join u on a^<b", "join u on a=^=b", "join u on ^=b", "join u on ^(a=b)", "join u on a=^1", "join u on a=^'b'", "join u on a=^null",
		"join u on a=b ^and c=d", "join u on a=b^,c=d", "join u on a=b ^join v on a=b", "join u on a=b.^", "^on a=b", "^u on a=b", "join u^.v on a=b",
		"join u on a ^is null", "join ^'u' on a=b",
	} {
		wrongAt(t, "select * from t "+s)
	}
}

func TestGroupAndOrder(t *testing.T) {
	for _, s := range []string{"group by a", "group by a.b", "group by a,b,c.d", "group by a,a", "order by 1", "order by 1 desc", "order by 1,1", "order by 16 desc,016,2 desc", "group by early order by 1"} {
		right(t, "select * from t "+s)
	}
	for _, s := range []string{
		"group^", "group by^", "group ^a", "^by a", "group by^,", "group by a,^", "group by a ^b", "group by a ^desc", "group by ^1", "group by ^'a'",
		"group by ^(a)", "group by ^*", "group by ^count(*)", "group by a,^,b", "group by ^by a", "order^", "order by^", "order ^1", "order by ^a",
		"order by ^desc", "order by 1,^", "order by 1 ^2", "order by 1 desc ^desc", "order by 1 ^asc", "order by 1,^,2", "order by ^'1'", "order by ^(1)",
		"order by ^*", "order by 1^.2", "order by 1 desc,^desc", "order by ^t.a", "^desc",
	} {
		wrongAt(t, "select * from t "+s)
	}
}

func TestLimitAndAt(t *testing.T) {
	for _, s := range []string{"limit 0", "limit 5", "limit 007", "limit 9223372036854775807", "at 0", "at 1", "at 9223372036854775807", "limit 1 at 2"} {
		right(t, "select * from t "+s)
	}
	for _, s := range []string{
		"limit^", "at^", "limit ^a", "limit ^'1'", "limit 1 ^2", "limit 1^,2", "limit ^(1)", "limit ^null", "limit ^*", "limit ^limit 1", "at ^a",
		"at ^'1'", "at 1 ^2", "at ^at 1", "limit ^at 1", "at ^limit 1",
	} {
		wrongAt(t, "select * from t "+s)
	}
}

func TestConds(t *testing.T) {
	for _, s := range []string{"a=1", "(a=1)", "((((a=1))))", "not a=1", "not(a=1)", "not not not a=1", "not(not(not(a=1)))", "(not a=1)", "a=1 and b=1", "a=1 or b=1", "a=1 and b=1 and c=1", "a=1 or b=1 or c=1", "a=1 and b=1 or c=1", "a=1 or b=1 and c=1", "(a=1 or b=1)and c=1", "a=1 or(b=1 and c=1)", "a=1 and(b=1 or c=1)", "not a=1 and not b=1", "not(a=1 and b=1)", "not(a=1 or b=1)and c=1", "(a=1)and(b=1)", "(a=1 and b=1)and c=1", "a=1 and(b=1 and c=1)", "(a=1 or b=1)or c=1", "a=1 or(b=1 or c=1)", "a is null and b is not null", "not a is not null", "not a is null or b=c"} {
		right(t, "select a from t where "+s)
		right(t, "delete from t where "+s)
	}
	for _, s := range []string{
		"^", "(^)", "(^", "^)", "(a=1^", "a=1^)", "((a=1)^", "(a=1)^)", "(a^)", "a^", "a=^", "a=1 ^b=1", "a=1^,b=1", "a=1 and^", "a=1 or^", "^and a=1",
		"^or a=1", "a=1 and ^and b=1", "a=1 or ^or b=1", "a=1 and ^or b=1", "a=1 ^not b=1", "not^", "not not^", "not ^and a=1", "a=1 and not^",
		"(a=1)^b=1", "(a=1)^(b=1)", "a=1^(b=1)", "a^(=1)", "(a^)=1", "not(^)", "(^)a=1", "a=1 and(^)", "a ^not=1", "a ^not null", "^1=a", "^1=1", "^'a'=a",
		"^null=a", "^null is null", "^null", "^1", "^*", "a=^*", "a=^(1)", "a=^(b)", "a=^not b", "a=^null", "a<>^null", "a=^=1", "a=^<1", "a=^>1", "a>^<1",
		"a<>^=1", "a<=^>1", "a=1^=1", "a=b^=c", "a ^1", "a ^'x'", "a ^b", "a.^=1", "a is^", "a is ^1", "a is ^'null'", "a is not^", "a is not ^1",
		"a is null ^null", "a is not ^not null", "a is null^=1", "a is not ^b", "a is ^b", "a is^(null)", "^is null", "a ^null", "^count(*)=1",
		"a=^count(*)", "a=^-", "a=1 ^where b=1", "^where a=1", "a^,b=1", "a=1^,", "a ^in(1)", "a ^like 'x'",
	} {
		wrongAt(t, "select a from t where "+s)
		wrongAt(t, "delete from t where "+s)
	}
}

// Each sign, with a number, a text and a column behind, with and without a table.
func TestSigns(t *testing.T) {
	for k, sign := range []string{"=", "<>", "<", "<=", ">", ">="} {
		for _, between := range []string{"", " "} {
			head := "select a from t where t.a" + between + sign + between
			at := len(head)
			left := nameOf(22, "t", "a")
			for behind, want := range map[string]api.Cond{
				"1":       {Kind: 1, Val: intCell(1)},
				"-9":      {Kind: 1, Val: intCell(-9)},
				"'x'":     {Kind: 1, Val: textCell("x")},
				"''":      {Kind: 1, Val: textCell("")},
				"'b'":     {Kind: 1, Val: textCell("b")},
				"b":       {Kind: 2, Right: nameAt(at, "b")},
				"u . b":   {Kind: 2, Right: nameOf(at, "u", "b")},
				"early":   {Kind: 2, Right: nameAt(at, "early")},
				"a":       {Kind: 2, Right: nameAt(at, "a")},
				"-009":    {Kind: 1, Val: intCell(-9)},
				"'it''s'": {Kind: 1, Val: textCell("it's")},
			} {
				want.Test, want.Left, want.At = k+1, left, 22
				if got := where(t, head[22:]+behind); !reflect.DeepEqual(got, want) {
					t.Errorf("%q%q: %+v; wanted %+v", head, behind, got, want)
				}
			}
		}
	}
	for s, want := range map[string]int{"a is null": 7, "a is not null": 8, "a\nis\tnot\rnull": 8} {
		if got := where(t, s); !reflect.DeepEqual(got, api.Cond{Kind: 1, Test: want, Left: nameAt(22, "a"), At: 22}) {
			t.Errorf("%q: %+v", s, got)
		}
	}
}

// And stands closer than or, not closer than both; parentheses stay what they part.
func TestHowCondsStand(t *testing.T) {
	for s, want := range map[string]string{
		"a=1":                        "a",
		"((a=1))":                    "a",
		"a=1 and b=1":                "(a & b)",
		"a=1 and b=1 and c=1":        "(a & b & c)",
		"(a=1 and b=1)and c=1":       "((a & b) & c)",
		"a=1 and(b=1 and c=1)":       "(a & (b & c))",
		"a=1 or b=1 or c=1":          "(a | b | c)",
		"(a=1 or b=1)or c=1":         "((a | b) | c)",
		"a=1 and b=1 or c=1":         "((a & b) | c)",
		"a=1 or b=1 and c=1":         "(a | (b & c))",
		"a=1 or(b=1 and c=1)":        "(a | (b & c))",
		"(a=1 or b=1)and c=1":        "((a | b) & c)",
		"not a=1 and b=1":            "(!a & b)",
		"not(a=1 and b=1)":           "!(a & b)",
		"not(a=1)and b=1":            "(!a & b)",
		"not not a=1 or b=1":         "(!!a | b)",
		"a=1 and not b=1 or not c=1": "((a & !b) | !c)",
		"not((a=1 or b=1)and c=1)":   "!((a | b) & c)",
		"a=1 or b=1 and c=1 or d=1":  "(a | (b & c) | d)",
	} {
		if got := shape(where(t, s)); got != want {
			t.Errorf("%q: %s; wanted %s", s, got, want)
		}
	}
}

// shape is a cond with each and, and each or, in parentheses.
func shape(c api.Cond) string {
	var parts []string
	for _, part := range c.Args {
		parts = append(parts, shape(part))
	}
	switch c.Kind {
	case 3:
		return "(" + strings.Join(parts, " & ") + ")"
	case 4:
		return "(" + strings.Join(parts, " | ") + ")"
	case 5:
		return "!" + strings.Join(parts, "; ")
	}
	return c.Left.Column
}

func TestCreates(t *testing.T) {
	for _, s := range []string{"create table t(a int)", "create table t(a text null)", "create table t(a int null,b int,c text)", "create table t(t int,t int)", "create table table_(a int)"} {
		right(t, s)
	}
	for _, s := range []string{
		"create ^", "create ^t(a int)", "create table^", "create table^(a int)", "create table t^", "create table t ^a int", "create table t(^)",
		"create table t(^", "create table t(a^)", "create table t(a int^", "create table t(a int,^)", "create table t(a int,b^)",
		"create table t(^,a int)", "create table t(^int)", "create table t(a int ^text)", "create table t(a ^null)", "create table t(a int ^not null)",
		"create table t(a int null ^null)", "create table t(a int ^b int)", "create table t(^(a int))", "create table t(a int)^(b int)",
		"create table t(a int)^)", "create table t(a int) ^keys 1", "create table t(t^.a int)", "create table t(a ^'int')", "create table t(a ^integer)",
		"create table t^.u(a int)", "create table ^'t'(a int)", "create table ^table(a int)", "create table t ^on u(a int)", "create table t^,u(a int)",
		"create projection^", "create projection ^on t(a)", "create projection p^", "create projection p ^t(a)", "create projection p on^",
		"create projection p on^(a)", "create projection p on t^", "create projection p on t ^a", "create projection p on t(^)",
		"create projection p on t(a^", "create projection p on t(a,^)", "create projection p on t(^,a)", "create projection p on t(a ^b)",
		"create projection p on t(t^.a)", "create projection p on t(^*)", "create projection p on t(a ^int)", "create projection p on t(^1)",
		"create projection p on t(a ^desc)", "create projection p on t(a)^)", "create projection p on t(a)keys^", "create projection p on t(a)^key 1",
		"create projection p on t(a)keys ^a", "create projection p on t(a)keys^'1'", "create projection p on t(a)keys 1 ^1",
		"create projection p on t(a)keys 1^,2", "create projection p on t(a)^1", "create projection p^.q on t(a)", "create projection p on t^.u(a)",
		"create projection p^,q on t(a)", "create ^projections p on t(a)",
	} {
		wrongAt(t, s)
	}
}

func TestDrops(t *testing.T) {
	for _, s := range []string{"drop table t", "drop projection p on t", "drop projection p on p", "drop table early"} {
		right(t, s)
	}
	for _, s := range []string{
		"drop^", "drop ^t", "drop table^", "drop table t ^u", "drop table t^,u", "drop table t^.u", "drop table ^'t'", "drop table t ^on u",
		"drop table ^table", "drop projection^", "drop projection p^", "drop projection p on^", "drop projection p ^t", "drop projection ^on t",
		"drop projection p^,q on t", "drop projection p on t^,u", "drop projection p on t ^u", "drop projection p on t^(a)", "drop projection p ^of t",
		"drop ^drop table t", "drop^'table' t",
	} {
		wrongAt(t, s)
	}
}

func TestInserts(t *testing.T) {
	for _, s := range []string{"(1)", "(-1)", "('')", "(null)", "(1,'a',null)", "(1),(2)", "(1),('a',null),(1)", "(1,1,1,1),(null,null)"} {
		right(t, "insert into t values"+s)
	}
	for _, s := range []string{
		"insert into t values^", "insert into t values(^)", "insert into t values(^", "insert into t values ^1", "insert into t values(1^",
		"insert into t values ^1)", "insert into t values(1,^)", "insert into t values(^,1)", "insert into t values(1 ^1)", "insert into t values(1,^,1)",
		"insert into t values(1),^", "insert into t values(1)^(2)", "insert into t values(1) ^(2)", "insert into t values(1),^,(2)",
		"insert into t values(1),^2", "insert into t values(^(1))", "insert into t values(1)^)", "insert into t values(^a)", "insert into t values(^t.a)",
		"insert into t values(^not null)", "insert into t values(null ^null)", "insert into t values(^*)", "insert into t values(^select)",
		"insert into t values(1),(^)", "insert into t values ^null", "insert into t values(^int)", "insert into t values(1)^values(1)",
		"insert into t values(1) ^where a=1", "insert into t values(1)^.",
	} {
		wrongAt(t, s)
	}
	for _, s := range []string{
		"insert^", "insert ^t values(1)", "insert into^", "insert into t^", "insert into ^values(1)", "insert into t^(1)", "insert into t ^(a) values(1)",
		"insert into t^.u values(1)", "insert into t^,u values(1)", "insert into ^'t' values(1)", "insert into t ^value(1)", "insert ^values(1)",
		"^into t values(1)", "insert into t ^select a from u",
	} {
		wrongAt(t, s)
	}
}

func TestDeletesAndOthers(t *testing.T) {
	for _, s := range []string{
		"delete^", "delete ^t", "delete from^", "delete from t^,u", "delete from t^.u", "delete from t ^u", "delete from ^'t'", "delete from ^where a=1",
		"delete from t ^a=1", "delete from t where^", "delete from t ^limit 1", "delete from t where a=1 ^limit 1", "delete ^* from t",
		"delete from t ^order by 1", "delete from t ^at 1", "delete from t ^hint early", "^from t", "advance ^1", "advance ^t", "advance ^advance",
		"advance^,", "^advances", "^'advance'", "forget^", "forget ^a", "forget ^'1'", "forget 1 ^2", "forget 1^,2", "forget^(1)", "^forgets 1", "move^",
		"move ^1", "move ^'t'", "move t ^u", "move t^,u", "move t^.u", "move ^move", "move ^table t", "^moves t",
	} {
		wrongAt(t, s)
	}
}

// What no statement begins with.
func TestBeginnings(t *testing.T) {
	for _, keyword := range keywords {
		s := keyword + " "
		switch keyword {
		case "select", "create", "drop", "insert", "delete", "advance", "forget", "move":
			wrongAt(t, s+"^=")
		default:
			wrongAt(t, "^"+s)
			wrongAt(t, "  ^"+s)
		}
	}
	for _, s := range slices.Concat(wayWords, []string{"a", "t.a", "selec", "selects", "1", "-1", "'select'", "''", "(", ")", ",", ".", "*", "=", "<>", "(select a from t)", "update t", "alter table t", "explain select a from t"}) {
		wrongAt(t, "^"+s)
		wrongAt(t, "\t^"+s+" ")
	}
}

// Clauses of a select, in their order.
var someClauses = []string{"join u on a=t.b", "where a=1 or b is null", "group by a,t.b", "order by 1,2 desc", "limit 5", "at 3", "hint using p,q early"}

// Each clause with and without each other one.
func TestClausesThereAndNot(t *testing.T) {
	for set := range 1 << len(someClauses) {
		for _, items := range []string{"*", "a", "a,count(*),sum(t.b)"} {
			s := "select " + items + " from t"
			for k, clause := range someClauses {
				if set>>k&1 == 1 {
					s += " " + clause
				}
			}
			right(t, s)
		}
	}
}

// Clauses in another order, and one of them twice, next to one another and apart.
func TestClausesInOtherOrders(t *testing.T) {
	for k, first := range someClauses {
		for _, second := range someClauses[:k+1] {
			s := "select a from t " + first + " "
			wrongAt(t, s+"^"+second)
			for n := k + 1; n < len(someClauses); n++ {
				wrongAt(t, s+someClauses[n]+" ^"+second)
			}
		}
	}
	for _, s := range []string{"select a from t ", "delete from t ", "move t "} {
		for _, other := range []string{"select a from t", "from t", "values(1)", "on a=b", "by a", "using p", "desc", "keys 1", "early", "a", "1", "'a'"} {
			wrongAt(t, s+"^"+other)
		}
	}
}

// Each list of one, two and many; with a comma too few, too many, ahead and behind.
func TestLists(t *testing.T) {
	for s, part := range map[string]string{
		"select # from t": "a", "select #, count(*) from t": "sum(a.b)",
		"select a from t group by #": "a.b", "select a from t order by #": "2 desc", "select a from t hint using #": "p",
		"create table t(#)": "a int null", "create projection p on t(#)keys 1": "a",
		"insert into t values(#)": "'a'", "insert into t values #": "(1,null)",
	} {
		for count := 1; count <= 15; count++ {
			right(t, strings.Replace(s, "#", many(part, ",", count), 1))
			right(t, strings.Replace(s, "#", many(part, " , ", count), 1))
			l := many(part, ",", count)
			wrongAt(t, strings.Replace(s, "#", "^,"+l, 1))
			wrongAt(t, strings.Replace(s, "#", l+",^,"+part, 1))
			wrongAt(t, strings.Replace(s, "#", l+" ^"+part, 1))
		}
	}
}

// Names at each place where one stands.
var namePlaces = []string{
	"select # from t", "select a,# from t", "select #.a from t", "select a.# from t", "select count(#)from t", "select sum(a.#)from t", "select min(#.a)from t", "select max(#)from t",
	"select a from #", "select * from # where a=1", "select a from t join # on a=b", "select a from t join u on #=b", "select a from t join u on #.a=b", "select a from t join u on a.#=b", "select a from t join u on a=#", "select a from t join u on a=#.b", "select a from t join u on a=b.#",
	"select a from t where #=1", "select a from t where #.a=1", "select a from t where a.#='x'", "select a from t where a=#", "select a from t where a<#.b", "select a from t where a>b.#", "select a from t where # is null", "select a from t where not # is not null", "select a from t where(#=1)", "select a from t where a=1 and #=1", "select a from t where a=1 or #=1",
	"select a from t group by #", "select a from t group by a,#.b", "select a from t group by a.#", "select a from t hint using #", "select a from t hint using a,# early",
	"create table #(a int)", "create table t(# int)", "create table t(a int,# text null)", "create projection # on t(a)", "create projection p on #(a)", "create projection p on t(#)", "create projection p on t(a,#)keys 1",
	"drop table #", "drop projection # on t", "drop projection p on #", "insert into # values(1)", "delete from #", "delete from # where a=1", "delete from t where #=1", "move #",
}

func TestNames(t *testing.T) {
	for _, s := range namePlaces {
		for _, count := range []int{1, 2, 15, 16} {
			for _, b := range []string{"q", "z_", "a9"} {
				right(t, strings.Replace(s, "#", many(b, "", count)[:count], 1))
			}
		}
		for _, name := range goodNames {
			right(t, strings.Replace(s, "#", name, 1))
		}
		for _, count := range []int{17, 18, 32, 255, 256, 256 + 16, 900} {
			wrongAt(t, strings.Replace(s, "#", "^"+many("a", "", count), 1))
			wrongAt(t, strings.Replace(s, "#", "^select"+many("_", "", count), 1))
		}
		for _, other := range []string{"1", "-1", "'a'", "'t'", "=", ","} {
			asMeant(t, strings.Replace(s, "#", other, 1))
		}
	}
}

// A keyword is no name; where a statement may go on with it, it is wrong just behind.
func TestKeywordsAreNoNames(t *testing.T) {
	for _, s := range namePlaces {
		place := strings.Index(s, "#")
		for _, keyword := range keywords {
			text := strings.Replace(s, "#", keyword, 1)
			asMeant(t, text)
			if _, at, errno := Parse(text); errno != 300 || at != place && !goesOn(s[:place], keyword) {
				t.Errorf("Parse(%q): %d, %d", text, at, errno)
			}
		}
	}
}

// goesOn tells whether a statement goes on, behind what is ahead of a name's place, with a keyword.
func goesOn(ahead, keyword string) bool {
	switch keyword {
	case "count", "sum", "min", "max":
		return ahead == "select " || ahead == "select a,"
	case "not":
		return regexp.MustCompile(`where$|where.* (and|or|not)$|where\($`).MatchString(strings.TrimSpace(ahead))
	}
	return false
}

// Words of ways are names everywhere, also ahead of a way.
func TestWaysAsNames(t *testing.T) {
	for _, w := range wayWords {
		q := right(t, "select "+w+","+w+"."+w+" from "+w+" join "+w+" on "+w+"="+w+"."+w+" group by "+w+" hint using "+w+","+w+" "+w).Select
		if want := []string{w, w}; q.From != w || q.Join != w || q.On[1].Table != w || q.Group[0].Column != w || !slices.Equal(q.Hint.Using, want) {
			t.Errorf("%+v", q)
		}
		if c := right(t, "create table "+w+"("+w+" int)"); c.Table != w || c.Columns[0].Name != w {
			t.Errorf("%+v", c)
		}
		if c := right(t, "create projection "+w+" on "+w+"("+w+")"); c.Table != w || c.Which != w || c.Names[0].Column != w {
			t.Errorf("%+v", c)
		}
	}
}

// allHints are all ways that may stand together, in any order.
func allHints(f func(l []string)) {
	var with func(l []string, left []string)
	with = func(l, left []string) {
		if len(l) > 0 {
			f(l)
		}
		for k, kind := range left {
			for _, way := range strings.Fields(kind) {
				rest := slices.Delete(slices.Clone(left), k, k+1)
				with(append(slices.Clone(l), strings.Replace(way, "using", "using p", 1)), rest)
			}
		}
	}
	with(nil, wayKinds)
}

func TestHints(t *testing.T) {
	const head = "select a from t hint "
	allHints(func(l []string) { right(t, head+strings.Join(l, " ")) })
	for k, w := range wayWords {
		h := right(t, head+w).Select.Hint
		want := api.Hint{}
		*[]*int{&want.Late, &want.Late, &want.Join, &want.Join, &want.Group, &want.Group, &want.Form, &want.Form, &want.Form}[k] = k + 1
		if !reflect.DeepEqual(h, want) {
			t.Errorf("%s: %+v", w, h)
		}
	}
	for _, s := range []string{"using p", "using p,q", "using p,p", "using early,late late", "early using early", "using p,q,r,s early"} {
		right(t, head+s)
	}
	for _, s := range []string{
		"^", "using^", "using^,p", "using p,^", "using p ^q", "using p,^,q", "using ^'p'", "using ^(p)", "using p^.q", "using ^using p", "^p", "^'early'",
		"^1", "early^,late", "early^,hash", "early ^p", "early ^1", "^earlier", "early ^hint hash", "early ^limit 1", "early^.hash", "^(early)", "^select",
	} {
		wrongAt(t, head+s)
	}
}
