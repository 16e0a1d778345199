package parse

import (
	"fmt"
	"slices"
	"strings"
	"testing"
)

// limited is a statement with a place for what there may be no more of, what stands there, and what stands between.
type limited struct {
	s, part, between string
	most             int
}

var limits = []limited{
	{"select # from t", "a", ",", 16},
	{"select # from t where a = 1 limit 1", "count(*)", ",", 16},
	{"select # from t hint early", "sum(t.b)", " , ", 16},
	{"select a from t group by #", "a", ",", 16},
	{"select * from t where a = 1 group by # order by 1", "t.a", " , ", 16},
	{"select a from t order by #", "1", ",", 16},
	{"select a from t group by a order by # at 1", "16 desc", ",", 16},
	{"select a from t hint using #", "p", ",", 16},
	{"select a from t hint late using # words", "early", " , ", 16},
	{"create table t(#)", "a int", ",", 16},
	{"create table t(#)", "a text null", " , ", 16},
	{"create projection p on t(#)", "a", ",", 16},
	{"create projection p on t(#)keys 20", "b", " , ", 16},
	{"insert into t values(#)", "1", ",", 16},
	{"insert into t values(1),(#),(1,2)", "null", ",", 16},
	{"insert into t values(1),(#)", "'x'", " , ", 16},
	{"insert into t values #", "(1)", ",", 64},
	{"insert into t values #", "(1,null,'')", ",", 64},
	{"select a from t where #", "a=1", " and ", 32},
	{"select a from t where not a is null and b is null or # limit 1", "a=b", " and ", 32},
	{"select a from t where(#)", "a=1", " and ", 32},
	{"select a from t where a=1 or not(#)", "not a=1", " and ", 32},
	{"select a from t where #", "a=1", " or ", 32},
	{"select a from t where # and b=2 group by a", "a=1", " or ", 32},
	{"select a from t where b=2 and(#)", "a=1", " or ", 32},
	{"select a from t where #", "a=1 and b=1", " or ", 32},
	{"delete from t where #", "a=1", " and ", 32},
	{"delete from t where #", "not(b is null)", " or ", 32},
}

// with is such a statement, with so many of them.
func (l limited) with(count int) string {
	return strings.Replace(l.s, "#", many(l.part, l.between, count), 1)
}

func TestLimits(t *testing.T) {
	for _, l := range limits {
		for count := 1; count <= l.most; count++ {
			right(t, l.with(count))
		}
		for count := l.most + 1; len(l.with(count)) <= mostBytes; count++ {
			tooLarge(t, l.with(count))
			asMeant(t, l.with(count))
		}
		if len(l.with(l.most+1)) > mostBytes {
			t.Errorf("%+v", l)
		}
	}
}

// What may not stand where it does is told first, wherever it is.
func TestWrongBehindTooMany(t *testing.T) {
	for _, l := range limits {
		for _, count := range []int{l.most, l.most + 1} {
			s := l.with(count)
			wrongAt(t, s+" ^)")
			wrongAt(t, s+" ^'x'")
			wrongAt(t, s+" ^;")
			wrongAt(t, s+" ^abcdefghijklmnopq")
			at := strings.Index(l.s, "#") + len(many(l.part, l.between, count))
			wrongAt(t, s[:at]+" ^select"+s[at:])
			wrongAt(t, s[:at]+" ^="+s[at:])
		}
	}
	wrongAt(t, "select "+many("a", ",", 17)+" from t order by ^0")
	wrongAt(t, "select "+many("a", ",", 17)+" from t limit ^-1")
	wrongAt(t, "select "+many("a", ",", 17)+" from t hint early ^late")
	wrongAt(t, "select "+many("a", ",", 17)+" ^")
	wrongAt(t, "select a from t order by "+many("1", ",", 17)+" limit ^limit")
	wrongAt(t, "select a from t order by "+many("1", ",", 17)+" limit 1 ^limit")
	wrongAt(t, "create projection p on t("+many("a", ",", 17)+")keys ^-1")
	wrongAt(t, "insert into t values"+many("(1)", ",", 65)+",^")
	wrongAt(t, "delete from t where "+many("a=1", " and ", 33)+" and^")
	wrongAt(t, "delete from t where ("+many("a=1", " or ", 33)+"^")
}

// Each list is counted by itself.
func TestLimitsOfEachList(t *testing.T) {
	sixteen := many("a", ",", 16)
	right(t, "select "+sixteen+" from t group by "+sixteen+" order by "+many("1", ",", 16)+" hint using "+sixteen)
	tooLarge(t, "select "+sixteen+",a from t group by "+sixteen)
	tooLarge(t, "select "+sixteen+" from t group by "+sixteen+",a")
	tooLarge(t, "select "+sixteen+" from t group by "+sixteen+" order by "+many("1", ",", 17)+" hint using a")
	right(t, "insert into t values"+many("("+many("1", ",", 16)+")", ",", 25))
	right(t, "insert into t values"+many("(1,1,1,1,1)", ",", 64))
	tooLarge(t, "insert into t values("+many("1", ",", 16)+"),("+many("1", ",", 17)+"),(1)")
	and := many("a=1", " and ", 32)
	right(t, "select a from t where "+and+" or "+and+" or not("+and+")")
	right(t, "select a from t where("+and+")and("+and+")")
	tooLarge(t, "select a from t where("+and+" and a=1)and b=1")
	tooLarge(t, "select a from t where "+and+" and(a=1)or b=1")
	right(t, "select a from t where "+and+" or b=1")
	or := many("a=1", " or ", 31)
	right(t, "select a from t where "+or+" or(b=1 or c=1)")
	tooLarge(t, "select a from t where "+or+" or b=1 or c=1")
	tooLarge(t, "select a from t where "+or+" or b=1 and c=1 or(c=1)")
	tooLarge(t, "delete from t where not("+or+" or not b=1 or c=1)")
}

// deep is a test within others, from the outermost one on: ( is a parenthesis, n a not, o and a are an or, and an and, with it as their last part.
func deep(s string) string {
	ahead, behind := "", ""
	for _, one := range s {
		switch one {
		case '(':
			ahead, behind = ahead+"(", ")"+behind
		case 'n':
			ahead += "not "
		case 'o':
			ahead += "b=1 or "
		case 'a':
			ahead += "b=1 and "
		}
	}
	return ahead + "a=1" + behind
}

func TestDepths(t *testing.T) {
	for _, s := range []string{"(", "n", "(n", "n(", "((n", "nn(", "n((", "(o", "(a", "(oa", "(on", "n(o", "n(a", "(an", "(oan"} {
		for count := range 40 {
			whole := many(s, "", count)
			text := deep(whole)
			if len(text) > 900 {
				break
			}
			for _, text := range []string{"select a from t where " + text, "select a from t where " + text + " or c=1 limit 1", "delete from t where c=1 and " + text} {
				asMeant(t, text)
				if strings.Count(whole, "(")+strings.Count(whole, "n") > 16 {
					tooLarge(t, text)
				} else {
					right(t, text)
				}
			}
		}
	}
	for k := range 18 {
		nots, parentheses := many("n", "", k), many("(", "", 16-min(k, 16))
		right(t, "delete from t where "+deep(many("n", "", min(k, 16))+parentheses))
		right(t, "delete from t where "+deep(parentheses+many("n", "", min(k, 16))))
		tooLarge(t, "delete from t where "+deep("("+nots+parentheses))
		tooLarge(t, "delete from t where "+deep(parentheses+nots+"n"))
	}
}

// What is closed is no longer around what follows.
func TestDepthsBesideOneAnother(t *testing.T) {
	sixteen := deep(many("(", "", 16))
	right(t, "select a from t where "+many(sixteen, " and ", 20))
	right(t, "select a from t where "+deep(many("n", "", 16))+" and "+deep(many("n(", "", 8))+" or "+sixteen)
	right(t, "select a from t where not("+deep(many("(", "", 14))+" or "+deep(many("n", "", 14))+")and not a is null")
	tooLarge(t, "select a from t where not("+deep(many("(", "", 14))+" or "+deep(many("n", "", 15))+")and not a is null")
	tooLarge(t, "select a from t where "+sixteen+" or "+deep(many("(", "", 17))+" or "+sixteen)
	tooLarge(t, "delete from t where "+deep(many("n", "", 17))+" and b=1")
	right(t, "delete from t where "+deep(many("n", "", 16))+" and a is not null")
	right(t, "delete from t where "+strings.Replace(deep(many("n", "", 16)), "a=1", "a is not null", 1))
}

// As deep, and as long, as a text may be; a token that is wrong stands first.
func TestDeepest(t *testing.T) {
	for count := 17; ; count++ {
		open, closed := many("(", "", count), many(")", "", count)
		s := "delete from t where " + open + "a=1" + closed
		if len(s) > mostBytes {
			break
		}
		tooLarge(t, s)
		wrongAt(t, s[:len(s)-1]+"^")
		wrongAt(t, "delete from t where "+open+"^")
		wrongAt(t, "delete from t where "+open+"^"+closed)
		if len(s) < mostBytes {
			wrongAt(t, s+"^)")
		}
	}
	for count := 17; count <= 240; count++ {
		nots := many("not ", "", count)
		tooLarge(t, "delete from t where "+nots+"a=1")
		wrongAt(t, "delete from t where "+nots+"^")
		wrongAt(t, "delete from t where "+nots+"a ^not null")
	}
	wrongAt(t, "delete from t where "+many("(", "", mostBytes-20)+"^")
	wrongAt(t, "delete from t where "+many("(not", "", 251)+"^")
	asMeant(t, "select "+many("a", ",", 503)+" from t")
	asMeant(t, "insert into t values"+many("(1)", ",", 251))
	asMeant(t, "delete from t where "+many("a=1", "or ", 167))
}

// Whole statements with as much in each list as there may be, one list with one more.
func TestFullStatements(t *testing.T) {
	counts := []int{16, 16, 16, 16}
	for k := range len(counts) + 1 {
		l := slices.Clone(counts)
		if k < len(l) {
			l[k]++
		}
		s := fmt.Sprintf("select %s from t join u on a=b where %s group by %s order by %s limit 1 at 2 hint using %s early", many("a", ",", l[0]), many("a=1", " and ", 32), many("t.a", ",", l[1]), many("16", ",", l[2]), many("p", ",", l[3]))
		asMeant(t, s)
		if k < len(l) {
			tooLarge(t, s)
		} else {
			right(t, s)
		}
	}
}
