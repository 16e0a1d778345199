package parse

import (
	"fmt"
	"peristyle/api"
	"peristyle/lex"
	"slices"
	"strings"
	"testing"
)

// vocabulary are tokens of each kind: all keywords, words of ways and signs, names, numbers and texts at their edges.
var vocabulary = slices.Concat(keywords, wayWords, strings.Fields("( ) , . * = < > <= >= <> a t zz abcdefghijklmnop abcdefghijklmnopq -1 0 1 16 17 9223372036854775807 -9223372036854775808 '' 'it''s' 'select'"))

// tokensOf are a text's tokens, as they stand.
func tokensOf(t *testing.T, s string) []string {
	l, _, errno := lex.Tokens(s)
	if errno != 0 {
		t.Fatal(s)
	}
	var all []string
	for k, token := range l[:len(l)-1] {
		all = append(all, strings.TrimRight(s[token.At:l[k+1].At], " \t\n\r"))
	}
	return all
}

// That Tokens say something stands first: of the first token that is none, whatever the grammar says ahead of it and behind.
func TestTokensStandFirst(t *testing.T) {
	for _, s := range manyStatements() {
		tokens := tokensOf(t, s)
		wrongAt(t, s+" ^'")
		asMeant(t, "' "+s)
		for _, none := range []string{";", "A", "-", "99999999999999999999", "\x00", "\xff", "'" + many("x", "", 33) + "'", "-0"} {
			wrongAt(t, "^"+none+" "+s)
			wrongAt(t, s+" ^"+none)
			wrongAt(t, s+" ) select ^"+none)
			wrongAt(t, ") "+s+" ^"+none+" ; "+s)
			for k := range tokens {
				wrongAt(t, strings.Join(tokens[:k], " ")+" ^"+none+" "+strings.Join(tokens[k:], " ;"))
			}
		}
	}
	wrongAt(t, "select a from t limit -1 ^;")
	wrongAt(t, "select a from t where "+many("(", "", 17)+"a=1"+many(")", "", 17)+" ^;")
	wrongAt(t, "select "+many("a", ",", 17)+" from t where ^;")
}

// That a text is too long stands ahead of all that is wrong in it; else what is wrong in it is told, up to its last byte.
func TestTooLong(t *testing.T) {
	for _, s := range slices.Concat(manyStatements(), []string{"", ";", "select", "a", "select a from t limit -1", ")"}) {
		for _, count := range []int{mostBytes + 1, mostBytes + 2, 2 * mostBytes, 1 << 14} {
			tooLarge(t, s+many(" ", "", count-len(s)))
			tooLarge(t, many("\n", "", count-len(s))+s)
			tooLarge(t, s+many(";", "", count-len(s)))
		}
		asMeant(t, s+many(" ", "", mostBytes-len(s)))
		asMeant(t, many("\t", "", mostBytes-len(s))+s)
	}
	tooLarge(t, "select a from t"+many(" ", "", 1<<20))
	right(t, "select a from t"+many(" ", "", mostBytes-15))
	right(t, many(" ", "", mostBytes-15)+"select a from t")
	wrongAt(t, "select a from"+many(" ", "", mostBytes-13)+"^")
	wrongAt(t, "select a from t"+many(" ", "", mostBytes-16)+"^)")
	wrongAt(t, "select a from t where "+many("(", "", mostBytes-22)+"^")
}

// Nothing at all, blanks alone, and two statements behind one another.
func TestNoStatement(t *testing.T) {
	wrongAt(t, "^")
	for _, blanks := range []string{" ", "\t", "\n", "\r", " \t\r\n ", many(" ", "", mostBytes)} {
		wrongAt(t, blanks+"^")
	}
	for _, a := range manyStatements() {
		for _, b := range manyStatements() {
			wrongAt(t, a+" ^"+b)
			wrongAt(t, a+"\n^( "+b)
			wrongAt(t, "^( "+a+" )")
			wrongAt(t, a+" ^)")
		}
	}
}

// Each statement cut behind each of its tokens: the end stands there.
func TestCutOff(t *testing.T) {
	for _, s := range manyStatements() {
		tokens := tokensOf(t, s)
		for k := range tokens {
			cut := strings.Join(tokens[:k], " ")
			asMeant(t, cut)
			asMeant(t, cut+"\n ")
			asMeant(t, strings.Join(tokens[k:], " "))
		}
		for k := range s {
			asMeant(t, s[:k])
			asMeant(t, s[k:])
		}
	}
}

// Each token left out, doubled, turned with the next one, and each other one in its place, ahead of it and behind.
func TestOtherTokens(t *testing.T) {
	for _, s := range manyStatements() {
		tokens := tokensOf(t, s)
		for k, token := range tokens {
			ahead, behind := tokens[:k], tokens[k+1:]
			with := func(l ...string) { asMeant(t, strings.Join(slices.Concat(ahead, l, behind), " ")) }
			with()
			with(token, token)
			if k+1 < len(tokens) {
				asMeant(t, strings.Join(slices.Concat(ahead, []string{tokens[k+1], token}, tokens[k+2:]), " "))
			}
			for _, other := range vocabulary {
				with(other)
				with(other, token)
				with(token, other)
				asMeant(t, strings.Join(append(slices.Clone(ahead), other), " "))
			}
		}
	}
}

// Behind each beginning of drawn statements each token is told to be wrong, or not.
func TestEachNextToken(t *testing.T) {
	s := stir(5)
	for range 60 {
		tokens := rule("statement").drawn(s, 0)
		for k := range tokens[:min(len(tokens), 60)] {
			ahead := strings.Join(tokens[:k], " ")
			for _, next := range vocabulary {
				asMeant(t, ahead+" "+next)
			}
		}
	}
}

// Numbers that only some may be.

var someNumbers = []int{least, least + 1, -1<<32 - 1, -1 << 32, -1<<32 + 1, -257, -256, -255, -17, -16, -15, -2, -1, 0, 1, 2, 3, 8, 15, 16, 17, 18, 32, 64, 255, 256, 257, 1<<16 + 1, 1<<31 - 1, 1 << 31, 1 << 32, 1<<32 + 1, 1<<32 + 16, 1<<40 + 1, 1<<63 - 2, great}

func TestNumbers(t *testing.T) {
	for s, most := range map[string]int{
		"select a from t order by #": 16, "select a from t order by # desc limit 1": 16, "select a from t order by 2 desc, #": 16, "select a from t order by 1,#,3": 16,
		"select a from t limit #": great, "select a from t limit # at 1": great, "select a from t at #": great, "select a from t limit 0 at # hint early": great,
		"create projection p on t(a)keys #": great, "forget #": great,
	} {
		for _, n := range someNumbers {
			if n < 0 || n > most || n == 0 && most == 16 {
				wrongAt(t, strings.Replace(s, "#", fmt.Sprintf("^%d", n), 1))
				wrongAt(t, strings.Replace(s, "#", strings.Replace(fmt.Sprintf("^%04d", n), "^-", "^-00", 1), 1))
				continue
			}
			right(t, strings.Replace(s, "#", fmt.Sprint(n), 1))
			right(t, strings.Replace(s, "#", fmt.Sprintf("%022d", n), 1))
		}
	}
	for k := 1; k <= 16; k++ {
		if l := right(t, fmt.Sprintf("select a from t order by 1,%d desc", k)).Select.Order; l[1] != (api.Key{Item: k - 1, Down: true, At: 27}) {
			t.Errorf("%+v", l)
		}
	}
	if q := right(t, "select a from t limit 9223372036854775807 at 9223372036854775806").Select; q.Limit != great || q.Epoch != great-1 {
		t.Errorf("%+v", q)
	}
}

// Of tests and rows a number may be any.
func TestAnyNumbers(t *testing.T) {
	for _, n := range someNumbers {
		text := fmt.Sprint(n)
		if c := where(t, "a = "+text); c.Val != intCell(n) {
			t.Errorf("%s: %+v", text, c)
		}
		if l := right(t, "insert into t values("+text+",'"+text+"')").Rows; l[0][0] != intCell(n) || l[0][1] != textCell(text) {
			t.Errorf("%s: %+v", text, l)
		}
	}
}

// What is wrong first is told, be it by its number or by where it stands.
func TestFirstOfTwo(t *testing.T) {
	for _, s := range []string{
		"select a from t order by ^0 limit -1",
		"select a from t order by ^17,0",
		"select a from t order by 1,^0,17 at -1",
		"select a from t order by ^-1 desc desc",
		"select a from t limit ^-1 at -1",
		"select a from t limit ^-1 limit 1",
		"select a from t limit ^-1 x",
		"select a from t limit ^-1 hint early early",
		"select a from t limit ^-9223372036854775808 where",
		"select a from t limit 1 ^limit -1",
		"select a from t at ^-1 limit -1",
		"select a from t at 0 ^limit -1",
		"select a from t at ^-1 hint",
		"select a from ^abcdefghijklmnopq limit -1",
		"select a from t ^abcdefghijklmnopq limit -1",
		"select ^abcdefghijklmnopq from t order by 0",
		"select a from t order by ^0 hint using abcdefghijklmnopq",
		"select a from t hint early ^late early",
		"select a from t hint early ^early abcdefghijklmnopq",
		"select a from t hint early ^x late",
		"select a from t hint using p early ^using abcdefghijklmnopq",
		"select a from t hint using ^abcdefghijklmnopq using p",
		"select a from t hint using p ^using",
		"select a from t hint using p, ^using p",
		"create projection p on t(a)keys ^-1 -1",
		"create projection p on t(a)keys ^-1 keys",
		"create projection p on t(^abcdefghijklmnopq)keys -1",
		"create projection p on t(a ^keys -1)",
		"forget ^-1 -1",
		"select a from t where ( ^order by 0",
		"select a from t where a = 1 ^) order by 0",
		"insert into t values ( 1 ^order by 0 )",
	} {
		wrongAt(t, s)
	}
}

// eachWay goes over all ways, each with its kind.
func eachWay(f func(kind int, way string)) {
	for kind, words := range wayKinds {
		for _, way := range strings.Fields(words) {
			f(kind, strings.Replace(way, "using", "using p", 1))
		}
	}
}

// Every pair of ways, next to one another and apart.
func TestPairsOfWays(t *testing.T) {
	const head = "select a from t hint "
	eachWay(func(first int, a string) {
		eachWay(func(second int, b string) {
			if first == second {
				wrongAt(t, head+a+" ^"+b)
			} else {
				right(t, head+a+" "+b)
			}
			eachWay(func(between int, c string) {
				switch {
				case between == first:
					wrongAt(t, head+a+" ^"+c+" "+b)
				case first == second || second == between:
					wrongAt(t, head+a+" "+c+" ^"+b)
				default:
					right(t, head+a+" "+c+" "+b)
				}
			})
		})
	})
	allHints(func(l []string) {
		eachWay(func(_ int, way string) { asMeant(t, head+strings.Join(l, " ")+" "+way) })
	})
}
