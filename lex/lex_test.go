package lex

import (
	"peristyle/api"
	"peristyle/cell"
	"slices"
	"strings"
	"testing"
	"unsafe"
)

// a<='it”s': a, <=, it's.
func TestExample(t *testing.T) {
	tokens(t, "a<='it''s'", wordAt(0, "a"), signAt(1, "<="), textAt(3, "it's"))
}

// Le1: Tokens

func TestTokens(t *testing.T) {
	tokens(t, "select sum(b), t.c from t where a <> -5 or not c >= 'x y' limit 010",
		wordAt(0, "select"), wordAt(7, "sum"), signAt(10, "("), wordAt(11, "b"), signAt(12, ")"), signAt(13, ","), wordAt(15, "t"), signAt(16, "."), wordAt(17, "c"),
		wordAt(19, "from"), wordAt(24, "t"), wordAt(26, "where"), wordAt(32, "a"), signAt(34, "<>"), numberAt(37, -5),
		wordAt(40, "or"), wordAt(43, "not"), wordAt(47, "c"), signAt(49, ">="), textAt(52, "x y"), wordAt(58, "limit"), numberAt(64, 10))
	tokens(t, "\tinsert\r\ninto t1 values(1,-2,null,'')\n",
		wordAt(1, "insert"), wordAt(9, "into"), wordAt(14, "t1"), wordAt(17, "values"), signAt(23, "("), numberAt(24, 1), signAt(25, ","), numberAt(26, -2), signAt(28, ","), wordAt(29, "null"), signAt(33, ","), textAt(34, ""), signAt(36, ")"))
	tokens(t, "a1-1'1'1=1", wordAt(0, "a1"), numberAt(2, -1), textAt(4, "1"), numberAt(7, 1), signAt(8, "="), numberAt(9, 1))
}

// Le1: ErrLimit

// sizes are those around the greatest, and far beyond.
var sizes = []int{0, 1, 2, 34, 66, 67, mostBytes - 1, mostBytes, mostBytes + 1, mostBytes + 2, 2 * mostBytes, 1 << 16, 1<<16 + 1, 1 << 20}

func TestLimitOfBlanks(t *testing.T) {
	for _, count := range sizes {
		for _, b := range allBlanks {
			s := many(string(b), count)
			if count > mostBytes {
				tooLong(t, s)
			} else {
				tokens(t, s)
			}
		}
	}
}

func TestLimitOfOneToken(t *testing.T) {
	for _, count := range sizes[1:] {
		ones := many("a", count)
		noughts, last := many("0", count), many("0", count-1)+"7"
		nines := many("9", count)
		if count > mostBytes {
			tooLong(t, ones)
			tooLong(t, noughts)
			tooLong(t, last)
			tooLong(t, nines)
			tooLong(t, "-"+last[1:])
			continue
		}
		tokens(t, ones, wordAt(0, ones))
		tokens(t, noughts, numberAt(0, 0))
		tokens(t, last, numberAt(0, 7))
		if count >= 2 {
			tokens(t, "-"+last[1:], numberAt(0, -7))
		}
		if count >= 19 {
			wrong(t, nines, 0)
		}
	}
}

func TestLimitOfSigns(t *testing.T) {
	for _, count := range sizes {
		for _, s := range plainSigns {
			l := many(s, count/len(s))
			if len(l) > mostBytes {
				tooLong(t, l)
				continue
			}
			var want []api.Token
			for at := 0; at < len(l); at += len(s) {
				want = append(want, signAt(at, s))
			}
			tokens(t, l, want...)
		}
	}
}

func TestLimitOfTexts(t *testing.T) {
	for _, count := range sizes[2:] {
		alone := shown(many("x", count-2))
		quotes := many("''", (count+1)/2)
		ahead := many("x", mostText)
		behind := many(" ", max(count, 34)-34) + shown(ahead)
		if count > mostBytes {
			tooLong(t, alone)
			tooLong(t, quotes)
			tooLong(t, behind)
			continue
		}
		if count <= 34 {
			tokens(t, alone, textAt(0, alone[1:count-1]))
		} else {
			wrong(t, alone, 0)
		}
		if count <= 66 {
			tokens(t, quotes, textAt(0, many("'", len(quotes)/2-1)))
		} else {
			wrong(t, quotes, 0)
		}
		tokens(t, behind, textAt(len(behind)-34, ahead))
	}
}

// That a text is too long stands ahead of all that is wrong in it, and what is wrong in its last byte is told.
func TestLimitStandsFirst(t *testing.T) {
	for _, first := range []string{";", "A", "_", "-", "'", "\x00", "\xff", "99999999999999999999"} {
		for _, rest := range []string{" ", "a", "0", "("} {
			wrong(t, first+" "+many(rest, mostBytes-1-len(first)), 0)
			tooLong(t, first+" "+many(rest, mostBytes-len(first)))
			tooLong(t, first+" "+many(rest, 1<<20))
		}
	}
	wrong(t, many(" ", mostBytes-1)+";", mostBytes-1)
	wrong(t, many("a ", mostBytes/2-1)+"a-", mostBytes-1)
	tooLong(t, many(" ", mostBytes)+";")
	tooLong(t, many("\xc3\xa4", mostBytes/2)+"a")
	wrong(t, many("\xc3\xa4", mostBytes/2), 0)
}

// Le1: ErrParse

// noTokens are what is no token, also with a blank and tokens behind.
var noTokens = []string{";", "A", "Z", "\x00", "\x0b", "\x0c", "\x1f", "\x7f", "\x80", "\xa0", "\xff", "!", "\"", "#", "$", "%", "&", "+", "/", ":", "?", "@", "[", "\\", "]", "^", "`", "{", "|", "}", "~", "-", "- 5", "-a", "--5", "-_", "-0", "-00", "\xc3\xa4", "'", "' x", "'''", "'x''"}

// tokensOfAllKinds end so that what is none may stand directly behind.
var tokensOfAllKinds = []string{"a", "a_", "z9", "7", "-7", "007", "'x'", "''", "''''", "(", ")", ",", ".", "*", "=", "<", ">", "<=", ">=", "<>"}

// inText tells whether some bytes, directly behind a text, would be part of it.
func inText(s, ahead string) bool {
	return strings.HasSuffix(ahead, "'") && strings.HasPrefix(s, "'")
}

func TestWhereOneIsWrong(t *testing.T) {
	for _, none := range noTokens {
		wrong(t, none, 0)
		for _, blanks := range someBlanks {
			wrong(t, blanks+none, len(blanks))
			wrong(t, none+blanks, 0)
			wrong(t, blanks+none+blanks, len(blanks))
			for _, ahead := range tokensOfAllKinds {
				wrong(t, ahead+blanks+none, len(ahead)+len(blanks))
				wrong(t, blanks+ahead+blanks+none+blanks, len(ahead)+2*len(blanks))
			}
		}
	}
}

// Directly behind a token of each kind, and ahead of others.
func TestWhereOneIsWrongDirectlyBehind(t *testing.T) {
	for _, none := range noTokens {
		for _, ahead := range tokensOfAllKinds {
			if inText(none, ahead) {
				continue
			}
			wrong(t, ahead+none, len(ahead))
			wrong(t, "b "+ahead+none, 2+len(ahead))
			for _, behind := range []string{" a", " 7", "\t-7", "\n(", "\r<=", " a 7 <> -7"} {
				wrong(t, ahead+none+behind, len(ahead))
				wrong(t, many("b ", 100)+ahead+none+behind, 200+len(ahead))
			}
		}
	}
}

// Of two that are none the first one is told.
func TestTwoThatAreWrong(t *testing.T) {
	for _, a := range noTokens {
		for _, b := range noTokens {
			if strings.HasPrefix(a, "'") && strings.Contains(b, "'") {
				continue // the second one's quote may end the first one's text
			}
			wrong(t, a+" "+b, 0)
			wrong(t, "a "+a+" 7 "+b, 2)
			wrong(t, "('x')"+a+" "+b, 5)
		}
	}
	wrong(t, "' A", 0)
	wrong(t, "A '", 0)
	wrong(t, "'A' A '", 4)
	wrong(t, "'A 'A '", 4)
	wrong(t, "'"+many("x", 33)+"' ;", 0)
	wrong(t, "; '"+many("x", 33)+"'", 0)
}

// kinds of bytes, by the chapter's words.
func isWordByte(b byte) bool { return strings.IndexByte(inWords, b) >= 0 }

func isBlankByte(b byte) bool { return strings.IndexByte(allBlanks, b) >= 0 }

func isSignByte(b byte) bool { return strings.IndexByte(allSigns, b) >= 0 }

func isDigitByte(b byte) bool { return strings.IndexByte(digits, b) >= 0 }

func isLetterByte(b byte) bool { return strings.IndexByte(letters, b) >= 0 }

func TestEachByteAlone(t *testing.T) {
	for k := range 256 {
		b := byte(k)
		s := string([]byte{b})
		switch {
		case isBlankByte(b):
			tokens(t, s)
		case isLetterByte(b):
			tokens(t, s, wordAt(0, s))
		case isDigitByte(b):
			tokens(t, s, numberAt(0, int(b-'0')))
		case isSignByte(b):
			tokens(t, s, signAt(0, s))
		default:
			wrong(t, s, 0)
		}
		asMeant(t, s)
	}
}

// Behind and ahead of a word, a number, a text and a sign.
func TestEachByteBesideTokens(t *testing.T) {
	for k := range 256 {
		b := byte(k)
		s := string([]byte{b})
		for _, other := range []string{"a", "m_9", "7", "-7", "07", "'x'", "''", "(", "<", ">", "<=", "<>", "="} {
			asMeant(t, s+other)
			asMeant(t, other+s)
			asMeant(t, other+s+other)
			asMeant(t, other+" "+s+" "+other)
			if isWordByte(b) || isBlankByte(b) || isSignByte(b) || b == '\'' || b == '-' {
				continue
			}
			wrong(t, s+other, 0)
			wrong(t, other+s, len(other))
			wrong(t, other+s+other, len(other))
			wrong(t, other+" "+s+" "+other, len(other)+1)
		}
	}
}

func TestEachTwoBytes(t *testing.T) {
	for k := range 1 << 16 {
		asMeant(t, string([]byte{byte(k >> 8), byte(k)}))
	}
}

func TestShortTexts(t *testing.T) {
	for _, s := range allOf([]string{"a", "_", "0", "7", "-", "'", "<", "=", ">", ".", " ", ";"}, 5) {
		asMeant(t, s)
	}
	for _, s := range allOf([]string{"a", "0", "-", "'", " "}, 7) {
		asMeant(t, s)
	}
}

// Le1: words

func TestWords(t *testing.T) {
	for _, b := range letters {
		s := string(b)
		tokens(t, s, wordAt(0, s))
		tokens(t, s+s, wordAt(0, s+s))
		for _, behind := range inWords {
			both := s + string(behind)
			tokens(t, both, wordAt(0, both))
			tokens(t, both+s, wordAt(0, both+s))
		}
	}
	for _, s := range []string{"a", "ab", "a1", "a_", "a__", "a_1", "a1_b", "a0123456789", "z_" + letters + digits, letters, "e5", "x0", "select", "selects", "it", "null", "nulls", many("a", 17), many("z_9", 170)} {
		tokens(t, s, wordAt(0, s))
		tokens(t, " "+s+" ", wordAt(1, s))
		tokens(t, s+" "+s, wordAt(0, s), wordAt(len(s)+1, s))
	}
}

func TestWordsOfEachLength(t *testing.T) {
	for count := 1; count <= mostBytes; count++ {
		for _, rest := range []string{"a", "_", "0", "9z_"} {
			s := ("q" + many(rest, count))[:count]
			tokens(t, s, wordAt(0, s))
		}
	}
}

// Bytes of which no word is, at its first place, within it and behind it.
func TestWordsOfOtherBytes(t *testing.T) {
	for k := range 256 {
		s := string([]byte{byte(k)})
		if k < 'A' || k > 'Z' && k < 128 {
			continue
		}
		wrong(t, s, 0)
		wrong(t, s+"a", 0)
		wrong(t, "a"+s, 1)
		wrong(t, "ab"+s+"cd", 2)
		wrong(t, "a_9"+s, 3)
		wrong(t, "a "+s+"b", 2)
	}
	for _, s := range []string{"\xc3\xa4", "\xe2\x82\xac", "\xf0\x9f\x98\x80", "\u0131", "\uff41", "\u0660"} {
		wrong(t, s, 0)
		wrong(t, "a"+s, 1)
		wrong(t, "7"+s, 1)
		tokens(t, "'"+s+"'", textAt(0, s))
	}
	wrong(t, "_", 0)
	wrong(t, "_a", 0)
	wrong(t, "a _a", 2)
	wrong(t, "7_", 1)
	wrong(t, "(_", 1)
	wrong(t, "''_", 2)
	tokens(t, "7a", numberAt(0, 7), wordAt(1, "a"))
	tokens(t, "007a_7", numberAt(0, 7), wordAt(3, "a_7"))
	wrong(t, "SELECT", 0)
	wrong(t, "sELECT", 1)
	wrong(t, "select A", 7)
}

func TestWordsDirectlyBehind(t *testing.T) {
	tokens(t, "7a", numberAt(0, 7), wordAt(1, "a"))
	tokens(t, "-7e5", numberAt(0, -7), wordAt(2, "e5"))
	tokens(t, "0x10", numberAt(0, 0), wordAt(1, "x10"))
	tokens(t, "'7'a", textAt(0, "7"), wordAt(3, "a"))
	tokens(t, "''a''", textAt(0, ""), wordAt(2, "a"), textAt(3, ""))
	for _, s := range someSigns {
		tokens(t, s+"a", signAt(0, s), wordAt(len(s), "a"))
		tokens(t, "a"+s, wordAt(0, "a"), signAt(1, s))
		tokens(t, "a_"+s+"b9", wordAt(0, "a_"), signAt(2, s), wordAt(2+len(s), "b9"))
	}
	for _, s := range someBlanks {
		tokens(t, "a"+s+"b", wordAt(0, "a"), wordAt(1+len(s), "b"))
		tokens(t, "a"+s+"9", wordAt(0, "a"), numberAt(1+len(s), 9))
		wrong(t, "a"+s+"_", 1+len(s))
	}
}

// Le1: numbers

// numbers are some that layer 6 reads, as they are shown.
var numbers = []api.Token{
	{S: "0"}, {S: "1", N: 1}, {S: "7", N: 7}, {S: "9", N: 9}, {S: "10", N: 10}, {S: "100", N: 100}, {S: "101", N: 101}, {S: "1000000000", N: 1000000000},
	{S: "2147483647", N: 1<<31 - 1}, {S: "2147483648", N: 1 << 31}, {S: "4294967296", N: 1 << 32}, {S: "999999999999999999", N: 999999999999999999}, {S: "1000000000000000000", N: 1000000000000000000},
	{S: "9223372036854775799", N: great - 8}, {S: "9223372036854775806", N: great - 1}, {S: "9223372036854775807", N: great},
	{S: "-1", N: -1}, {S: "-9", N: -9}, {S: "-10", N: -10}, {S: "-2147483649", N: -1<<31 - 1}, {S: "-9223372036854775800", N: least + 8}, {S: "-9223372036854775807", N: -great}, {S: "-9223372036854775808", N: least},
}

// noNumbers are digits that layer 6 does not read.
var noNumbers = []string{
	"-0", "9223372036854775808", "9223372036854775810", "9300000000000000000", "9999999999999999999", "10000000000000000000", "18446744073709551615", "18446744073709551616", "18446744073709551617", "36893488147419103232", "92233720368547758070", "100000000000000000000",
	"-9223372036854775809", "-9223372036854775810", "-9999999999999999999", "-10000000000000000000", "-18446744073709551615", "-18446744073709551616", "-18446744073709551617", "-92233720368547758080",
	"1" + many("0", 100), "-1" + many("0", 100), many("9", 900), "-" + many("9", 900), "1" + many("0", 800),
}

// noughtsAhead is a number with noughts ahead of it.
func noughtsAhead(s string, count int) string {
	if strings.HasPrefix(s, "-") {
		return "-" + many("0", count) + s[1:]
	}
	return many("0", count) + s
}

func TestNumbers(t *testing.T) {
	for _, n := range numbers {
		for _, count := range []int{0, 1, 2, 18, 19, 20, 64, 1000} {
			s := noughtsAhead(n.S, count)
			tokens(t, s, numberAt(0, n.N))
			tokens(t, " "+s, numberAt(1, n.N))
			tokens(t, "(.,"+s+"a", signAt(0, "("), signAt(1, "."), signAt(2, ","), numberAt(3, n.N), wordAt(3+len(s), "a"))
			tokens(t, s+"-1", numberAt(0, n.N), numberAt(len(s), -1))
		}
	}
	for n := range 2000 {
		for _, n := range []int{n, -n, great - n, least + n} {
			s := cell.Show(api.Cell{Kind: api.Int, N: n})
			tokens(t, s, numberAt(0, n))
			tokens(t, noughtsAhead(s, 1+n&3), numberAt(0, n))
		}
	}
}

func TestNumbersThatAreNone(t *testing.T) {
	for _, s := range noNumbers {
		for _, count := range []int{0, 1, 2, 19, 100} {
			s := noughtsAhead(s, count)
			wrong(t, s, 0)
			wrong(t, s+" ", 0)
			wrong(t, "\n"+s, 1)
			wrong(t, s+"a", 0)
			wrong(t, "7 "+s+" 7", 2)
			wrong(t, "'7'"+s, 3)
			wrong(t, "<="+s+")", 2)
		}
	}
}

// Noughts alone are 0, however many; - and noughts are no number that layer 6 reads.
func TestNoughts(t *testing.T) {
	for _, count := range []int{1, 2, 3, 18, 19, 20, 21, 64, 1000, 1023} {
		s := many("0", count)
		tokens(t, s, numberAt(0, 0))
		tokens(t, s[1:]+"7", numberAt(0, 7))
		tokens(t, "a"+s, wordAt(0, "a"+s))
		wrong(t, "-"+s, 0)
		tokens(t, "-"+s[1:]+"7", numberAt(0, -7))
	}
	wrong(t, "-0", 0)
	wrong(t, "-00", 0)
	wrong(t, "1-0", 1)
	wrong(t, "a -0 b", 2)
	wrong(t, "-0.5", 0)
	tokens(t, "-01", numberAt(0, -1))
	tokens(t, "-10", numberAt(0, -10))
}

// - without digits directly behind is none.
func TestDashes(t *testing.T) {
	for _, s := range []string{"-", "- ", "- 5", "-\t5", "-\n", "-\r5", "-a", "-a5", "--", "--5", "---5", "-'5'", "-''", "-(5)", "-.5", "-,", "-<", "-=5", "-_", "-;", "-A", "-\x00", "-\xff"} {
		wrong(t, s, 0)
		wrong(t, " "+s, 1)
		wrong(t, "5"+s, 1)
		wrong(t, "a"+s, 1)
		wrong(t, "'5'"+s, 3)
		wrong(t, "<"+s, 1)
		wrong(t, "-5"+s, 2)
	}
	wrong(t, "5 - 5", 2)
	wrong(t, "5 -", 2)
	wrong(t, "5--5", 1)
	wrong(t, "a--5", 1)
}

func TestNumbersDirectlyBehind(t *testing.T) {
	tokens(t, "1-2", numberAt(0, 1), numberAt(1, -2))
	tokens(t, "1-2-3", numberAt(0, 1), numberAt(1, -2), numberAt(3, -3))
	tokens(t, "-1-2", numberAt(0, -1), numberAt(2, -2))
	tokens(t, "a-1", wordAt(0, "a"), numberAt(1, -1))
	tokens(t, "a1-1", wordAt(0, "a1"), numberAt(2, -1))
	tokens(t, "1.5", numberAt(0, 1), signAt(1, "."), numberAt(2, 5))
	tokens(t, ".5", signAt(0, "."), numberAt(1, 5))
	tokens(t, "5.", numberAt(0, 5), signAt(1, "."))
	tokens(t, "-1.-5", numberAt(0, -1), signAt(2, "."), numberAt(3, -5))
	tokens(t, "1e5", numberAt(0, 1), wordAt(1, "e5"))
	wrong(t, "1_000", 1)
	wrong(t, "+1", 0)
	tokens(t, "1,000", numberAt(0, 1), signAt(1, ","), numberAt(2, 0))
	tokens(t, "'1'1", textAt(0, "1"), numberAt(3, 1))
	tokens(t, "'1'-1", textAt(0, "1"), numberAt(3, -1))
	tokens(t, "1'1'", numberAt(0, 1), textAt(1, "1"))
	tokens(t, "9223372036854775807-9223372036854775808", numberAt(0, great), numberAt(19, least))
	wrong(t, "1-9223372036854775809", 1)
	for _, s := range someSigns {
		tokens(t, s+"05", signAt(0, s), numberAt(len(s), 5))
		tokens(t, s+"-05", signAt(0, s), numberAt(len(s), -5))
		tokens(t, "05"+s, numberAt(0, 5), signAt(2, s))
	}
	for _, s := range someBlanks {
		tokens(t, "1"+s+"2", numberAt(0, 1), numberAt(1+len(s), 2))
		tokens(t, "1"+s+"-2", numberAt(0, 1), numberAt(1+len(s), -2))
		wrong(t, "-"+s+"2", 0)
	}
}

// Le1: texts

func TestTextsOfEachLength(t *testing.T) {
	for count := range 300 {
		for _, b := range []string{"x", " ", "0", "-", "\x00", "\xff", "\xc3\xa4", "A", ";", "''"} {
			inside := many(b, count)
			s := "'" + inside + "'"
			says := strings.ReplaceAll(inside, "''", "'")
			if len(says) > mostText {
				wrong(t, s, 0)
				wrong(t, "a "+s+" b", 2)
				continue
			}
			tokens(t, s, textAt(0, says))
			tokens(t, "a "+s+" b", wordAt(0, "a"), textAt(2, says), wordAt(3+len(s), "b"))
		}
	}
}

// Quotes at the beginning, at the end, at both, within, and nothing else.
func TestTextsOfQuotes(t *testing.T) {
	for count := range 36 {
		for rest := range 36 {
			quotes, others := many("'", count), many("x", rest)
			for _, says := range []string{quotes, quotes + others, others + quotes, others + quotes + "y", "y" + quotes + others, quotes + others + quotes} {
				s := shown(says)
				if len(says) > mostText {
					wrong(t, s, 0)
					wrong(t, "<>"+s, 2)
				} else {
					tokens(t, s, textAt(0, says))
					tokens(t, "<>"+s+"a", signAt(0, "<>"), textAt(2, says), wordAt(2+len(s), "a"))
				}
			}
		}
	}
	tokens(t, "''", textAt(0, ""))
	tokens(t, "''''", textAt(0, "'"))
	tokens(t, "''''''", textAt(0, "''"))
	tokens(t, "'x'''", textAt(0, "x'"))
	tokens(t, "'''x'", textAt(0, "'x"))
	tokens(t, "'a''''b'", textAt(0, "a''b"))
}

// Quotes alone: an even number of them is a text, an odd one has no end.
func TestQuotesAlone(t *testing.T) {
	for count := 1; count <= mostBytes; count++ {
		s := many("'", count)
		if count%2 == 0 && count/2-1 <= mostText {
			tokens(t, s, textAt(0, many("'", count/2-1)))
		} else {
			wrong(t, s, 0)
		}
	}
}

func TestTextsOfEachByte(t *testing.T) {
	for k := range 256 {
		b := string([]byte{byte(k)})
		for _, says := range []string{b, b + b, "x" + b, b + "x", "x" + b + "y", many("x", 31) + b, b + many("x", 31), many("x", 16) + b + many("x", 15), many(b, 32), "'" + b, b + "'"} {
			tokens(t, shown(says), textAt(0, says))
			tokens(t, "a"+shown(says)+"b", wordAt(0, "a"), textAt(1, says), wordAt(1+len(shown(says)), "b"))
		}
		wrong(t, shown(many("x", 32)+b), 0)
		wrong(t, shown(b+many("x", 32)), 0)
		wrong(t, shown(many(b, 33)), 0)
	}
	// Bytes count, not letters.
	tokens(t, shown(many("\xc3\xa4", 16)), textAt(0, many("\xc3\xa4", 16)))
	wrong(t, shown(many("\xc3\xa4", 16)+"x"), 0)
	wrong(t, shown(many("\xe2\x82\xac", 11)), 0)
}

// What would be tokens, or none, is within a text nothing but its bytes.
func TestTextsOfTokens(t *testing.T) {
	for _, says := range append([]string{"select", "-- 5", "<=", "( )", "a b", "\"", "\\'", "\\", "99999999999999999999", "-"}, noTokens...) {
		tokens(t, shown(says), textAt(0, says))
	}
	tokens(t, `'\''' `, textAt(0, `\'`))
	wrong(t, `'\'x'`, 4)
}

// Two directly behind one another are one, whose quote stands twice.
func TestTextsDirectlyBehind(t *testing.T) {
	tokens(t, "'a''b'", textAt(0, "a'b"))
	tokens(t, "'a''b''c'", textAt(0, "a'b'c"))
	tokens(t, "''''", textAt(0, "'"))
	tokens(t, "'a' 'b'", textAt(0, "a"), textAt(4, "b"))
	tokens(t, "'' ''", textAt(0, ""), textAt(3, ""))
	tokens(t, "'' '' ''''", textAt(0, ""), textAt(3, ""), textAt(6, "'"))
	wrong(t, shown(many("x", 16))+shown(many("y", 16)), 0)
	tokens(t, shown(many("x", 16))+shown(many("y", 15)), textAt(0, many("x", 16)+"'"+many("y", 15)))
	tokens(t, shown(many("x", 32))+" "+shown(many("y", 32)), textAt(0, many("x", 32)), textAt(35, many("y", 32)))
	tokens(t, "'a'b'c'", textAt(0, "a"), wordAt(3, "b"), textAt(4, "c"))
	tokens(t, "'a'7'c'", textAt(0, "a"), numberAt(3, 7), textAt(4, "c"))
	tokens(t, "'a'<'c'", textAt(0, "a"), signAt(3, "<"), textAt(4, "c"))
	tokens(t, "a'b'c", wordAt(0, "a"), textAt(1, "b"), wordAt(4, "c"))
	for _, s := range someSigns {
		tokens(t, s+"''"+s, signAt(0, s), textAt(len(s), ""), signAt(len(s)+2, s))
	}
}

// One without an end begins where its first quote stands, whatever quotes stand within it.
func TestTextsWithoutAnEnd(t *testing.T) {
	for _, inside := range []string{"", "x", " ", "x y", "a = 5", many("x", 31), many("x", 32), many("x", 33), many("x", 400), "\x00", "\xff"} {
		for _, quotes := range []string{"", "''", "''''", "''''''", many("''", 31), many("''", 32), many("''", 33)} {
			for _, s := range []string{"'" + inside + quotes, "'" + quotes + inside, "'" + inside + quotes + inside, "'" + quotes + inside + quotes} {
				wrong(t, s, 0)
				wrong(t, " "+s, 1)
				wrong(t, "a"+s, 1)
				wrong(t, "-5"+s, 2)
				wrong(t, "'y' "+s, 4)
				wrong(t, "'y'<"+s, 4)
			}
		}
	}
	wrong(t, "'a''", 0)
	wrong(t, "'a''''", 0)
	tokens(t, "'a'''''", textAt(0, "a''"))
	wrong(t, "'a' 'b", 4)
	wrong(t, "'a''b", 0)
	wrong(t, "'a' ''' b", 4)
	wrong(t, "'it's'", 5)
}

// Le1: signs

func TestSigns(t *testing.T) {
	for _, s := range someSigns {
		tokens(t, s, signAt(0, s))
		tokens(t, " "+s+" ", signAt(1, s))
		tokens(t, many(" ", mostBytes-len(s))+s, signAt(mostBytes-len(s), s))
		tokens(t, s+" "+s, signAt(0, s), signAt(len(s)+1, s))
		for _, ahead := range []string{"a", "7", "''"} {
			l, _, _ := meant(ahead)
			tokens(t, ahead+s, l[0], signAt(len(ahead), s))
		}
	}
	for _, s := range []string{"!", "!=", "^", "/", "%", "+", ":", ":=", "[", "{", ";", "|", "&", "\"", "?", "~"} {
		wrong(t, s, 0)
	}
}

// The longest that stands there.
func TestSignsDirectlyBehind(t *testing.T) {
	for s, want := range map[string]string{
		"<=>": "<= >", "<>=": "<> =", "==": "= =", "=<": "= <", "><": "> <", ">>=": "> >=", ">>": "> >", "<<": "< <", "<<=": "< <=", "<<>": "< <>", "<=<": "<= <", "<=<=": "<= <=", "<>>": "<> >", "<><": "<> <", "<><>": "<> <>",
		"<==": "<= =", ">==": ">= =", ">=>": ">= >", ">=<": ">= <", "=>": "= >", "=>=": "= >=", "=<=": "= <=", "=<>": "= <>", "===": "= = =", "<>>=": "<> >=", "><>": "> <>", "><=": "> <=", "()": "( )", "(*)": "( * )", ",.": ", .", "..": ". .", "**": "* *", "*=": "* =", "(<": "( <", "<)": "< )", ">=)": ">= )", "<.=": "< . =",
	} {
		var l []api.Token
		at := 0
		for _, w := range strings.Fields(want) {
			l = append(l, signAt(at, w))
			at += len(w)
		}
		tokens(t, s, l...)
	}
	tokens(t, "< =", signAt(0, "<"), signAt(2, "="))
	tokens(t, "< >", signAt(0, "<"), signAt(2, ">"))
	tokens(t, ">\n=", signAt(0, ">"), signAt(2, "="))
	tokens(t, "<'='", signAt(0, "<"), textAt(1, "="))
	tokens(t, "<-5>", signAt(0, "<"), numberAt(1, -5), signAt(3, ">"))
}

func TestSignsOfAllShortTexts(t *testing.T) {
	for _, s := range allOf(someSigns, 3) {
		asMeant(t, s)
		asMeant(t, "a"+s+"a")
	}
	for _, s := range allOf([]string{"<", "=", ">", " ", "("}, 7) {
		asMeant(t, s)
	}
}

// Le1: blanks

func TestBlanks(t *testing.T) {
	for _, s := range someBlanks {
		tokens(t, s)
		tokens(t, s+"a", wordAt(len(s), "a"))
		tokens(t, "a"+s, wordAt(0, "a"))
		tokens(t, s+"a"+s+"7"+s+"''"+s+"<"+s, wordAt(len(s), "a"), numberAt(1+2*len(s), 7), textAt(2+3*len(s), ""), signAt(4+4*len(s), "<"))
		tokens(t, "'"+s[:1]+"'"+s, textAt(0, s[:1]))
		for _, other := range someBlanks {
			tokens(t, s+other)
			tokens(t, s+"a"+other+"b"+s, wordAt(len(s), "a"), wordAt(1+len(s)+len(other), "b"))
		}
	}
	tokens(t, "")
}

func TestBlanksThatAreNone(t *testing.T) {
	for _, s := range []string{"\x0b", "\x0c", "\x00", "\xa0", "\xc2\xa0", "\xc2\x85", "\x85", "\xe2\x80\x83", "\xe3\x80\x80", "\xef\xbb\xbf", "\x08", "\x0e", "\x1f", "\x1c", "\x7f", "\x21"} {
		wrong(t, s, 0)
		wrong(t, " "+s, 1)
		wrong(t, "a"+s+"b", 1)
		wrong(t, "a "+s, 2)
		wrong(t, "\t\n\r "+s+" a", 4)
		tokens(t, "'"+s+"'", textAt(0, s))
	}
}

// Le1: TokEnd

func TestEnd(t *testing.T) {
	for s, want := range map[string]int{"": 1, " ": 1, "\n\n": 1, "a": 2, "a ": 2, "7": 2, "7\t": 2, "''": 2, "'' ": 2, "<=": 2, "<= ": 2, "a b": 3, many("a", 1024): 2, many("a ", 512): 513, many("(", 1024): 1025, many(" ", 1024): 1, many(" ", 1023) + "a": 2, "a" + many(" ", 1023): 2} {
		l, at, errno := Tokens(s)
		if len(l) != want || at != 0 || errno != api.OK {
			t.Errorf("Tokens(%q): %d tokens, %d, %d; wanted %d", short(s), len(l), at, errno, want)
		} else if last := l[want-1]; last != endAt(len(s)) {
			t.Errorf("Tokens(%q): behind them %+v", short(s), last)
		}
	}
}

// The kinds' numbers are those of package api.
func TestKinds(t *testing.T) {
	l, _, _ := Tokens("a 7 'x' <")
	for k, kind := range []int{api.TokWord, api.TokNumber, api.TokText, api.TokSign, api.TokEnd} {
		if len(l) != 5 || l[k].Kind != kind {
			t.Fatalf("%+v", l)
		}
	}
}

// Le1 and layer 6: what Show says of a number and a text, and what Tokens tell of it.
func TestAsLayer6(t *testing.T) {
	s := stir(6)
	for range 3000 {
		bytes := make([]byte, s.below(mostText+1))
		for k := range bytes {
			bytes[k] = one(s, []byte("'' x\x00\xff;a7-"))
		}
		txt := string(bytes)
		tokens(t, cell.Show(api.Cell{Kind: api.Text, S: txt}), textAt(0, txt))
		n := int(s.word) >> s.below(64)
		tokens(t, cell.Show(api.Cell{Kind: api.Int, N: n}), numberAt(0, n))
	}
}

// Le1: Keyword

func TestKeyword(t *testing.T) {
	if len(keywords()) != 36 {
		t.Fatal(len(keywords()))
	}
	for _, s := range keywords() {
		if !Keyword(s) {
			t.Errorf("Keyword(%q): not told", s)
		}
		tokens(t, s, wordAt(0, s))
		others := []string{s[1:], s[:len(s)-1], s + "\x00", "\x00" + s, s + " ", " " + s, s + "\n", s + "_", "_" + s, s + "0", s + s, strings.ToUpper(s), strings.ToUpper(s[:1]) + s[1:], s[:len(s)-1] + strings.ToUpper(s[len(s)-1:]), s[:1] + " " + s[1:], "'" + s + "'", s + many("x", 1<<20)}
		for _, b := range letters {
			others = append(others, s+string(b), string(b)+s, string(b)+s[1:], s[:len(s)-1]+string(b))
		}
		for _, other := range others {
			if Keyword(other) != slices.Contains(keywords(), other) {
				t.Errorf("Keyword(%q): %t", short(other), Keyword(other))
			}
		}
	}
}

func TestKeywordOfOtherWords(t *testing.T) {
	for _, s := range []string{"", "a", "t", "x1", "counts", "tables", "selects", "key", "value", "inner", "as", "asc", "having", "update", "set", "true", "false", "integer", "super", "early", "late", "hash", "merge", "hashed", "sorted", "spans", "words", "places", "avg", "like", "between", "exists", "distinct", "primary", "index", "nul", "nulls", "or_", "on1", "SELECT", "Select", " ", "*", "(", "5", "-5", "''", "and or", "and,or", "\x00", "\xff", many("select", 1<<18), many("a", 1<<20)} {
		if Keyword(s) {
			t.Errorf("Keyword(%q): told", short(s))
		}
	}
}

// All words of up to four letters.
func TestKeywordOfAllShortWords(t *testing.T) {
	found := 0
	for _, s := range allOf(strings.Split(letters, ""), 4) {
		if Keyword(s) {
			found++
			if !slices.Contains(keywords(), s) {
				t.Errorf("Keyword(%q): told", s)
			}
		}
	}
	want := 0
	for _, s := range keywords() {
		if len(s) <= 4 {
			want++
		}
	}
	if found != want {
		t.Errorf("%d keywords of up to four letters, not %d", found, want)
	}
}

// Le2

// joined are some parts, with a text ahead of each and behind the last one, and their tokens.
func joined(parts []part, between func(k int) string) (string, []api.Token) {
	var l []api.Token
	s := between(0)
	for k, p := range parts {
		p.t.At = len(s)
		l = append(l, p.t)
		s += p.s + between(k+1)
	}
	return s, l
}

func TestAnyTwoWithBlanksBetween(t *testing.T) {
	for _, a := range someParts() {
		for _, b := range someParts() {
			for _, blanks := range []string{" ", "\t", "\n", "\r", " \r\n\t"} {
				s, l := joined([]part{a, b}, func(int) string { return blanks })
				tokens(t, s, l...)
				tokens(t, s[len(blanks):], shifted(l, -len(blanks))...)
				s, l = joined([]part{a, b}, func(k int) string { return blanks[:k%2*len(blanks)] })
				tokens(t, s, l...)
			}
		}
	}
}

// shifted are tokens that begin so many bytes behind where they did.
func shifted(l []api.Token, by int) []api.Token {
	l = slices.Clone(l)
	for k := range l {
		l[k].At += by
	}
	return l
}

func TestManyWithBlanksBetween(t *testing.T) {
	s, parts := stir(29), someParts()
	for range 3000 {
		var l []part
		for range s.below(12) {
			l = append(l, one(s, parts))
		}
		once, want := joined(l, func(int) string { return " " })
		if len(once) <= mostBytes {
			tokens(t, once, want...)
		} else {
			tooLong(t, once)
		}
		other, want := joined(l, func(int) string { return one(s, someBlanks) })
		if len(other) <= mostBytes {
			tokens(t, other, want...)
		} else {
			tooLong(t, other)
		}
	}
}

// spread is a text with blanks at each place where one of its tokens begins, and at its end.
func spread(s string, l []api.Token, blanks func() string) string {
	from, more := 0, ""
	for _, x := range l {
		more += s[from:x.At] + blanks()
		from = x.At
	}
	return more
}

// sameSpread fails if tokens are not the same with blanks between.
func sameSpread(t *testing.T, s string, blanks func() string) {
	t.Helper()
	l, _, errno := Tokens(s)
	if errno != api.OK {
		return
	}
	more := spread(s, l, blanks)
	if len(more) > mostBytes {
		tooLong(t, more)
		return
	}
	if got, at, errno := Tokens(more); errno != api.OK || at != 0 || !slices.Equal(said(got), said(l)) {
		t.Errorf("Tokens(%q): %+v, %d, %d; without blanks (%q) %+v", short(more), got, at, errno, short(s), l)
	}
}

func TestSameTokensWithBlanksBetween(t *testing.T) {
	blank := stir(2)
	for _, s := range allOf([]string{"a", "7", "-", "'", "<", "=", ">", " ", "."}, 5) {
		sameSpread(t, s, func() string { return " " })
		sameSpread(t, s, func() string { return one(blank, someBlanks) })
	}
}

// R1 to R4

// drawn is a text of some parts, whether they may stand so or not.
func drawn(s *stirrer) string {
	var text []string
	for range s.below(20) {
		switch s.below(8) {
		case 0:
			text = append(text, one(s, noTokens))
		case 1, 2, 3:
			text = append(text, one(s, someBlanks[:6]))
		case 4:
			text = append(text, one(s, tokensOfAllKinds))
		default:
			text = append(text, one(s, someParts()).s)
		}
	}
	return strings.Join(text, "")
}

func TestTextsOfParts(t *testing.T) {
	s := stir(1)
	for range 20000 {
		text := drawn(s)
		asMeant(t, text)
		sameSpread(t, text, func() string { return one(s, someBlanks[:4]) })
	}
}

func TestTextsOfAnyBytes(t *testing.T) {
	s := stir(3)
	few := []byte("ab_09-'''<=>.(), \t\n")
	for k := range 20000 {
		bytes := make([]byte, s.below(40))
		if k%100 == 0 {
			bytes = make([]byte, s.below(2*mostBytes))
		}
		for at := range bytes {
			if bytes[at] = one(s, few); k%2 == 0 && s.below(10) == 0 {
				bytes[at] = byte(s.below(256))
			}
		}
		text := string(bytes)
		asMeant(t, text)
		sameSpread(t, text, func() string { return one(s, someBlanks[:4]) })
		if Keyword(text) != slices.Contains(keywords(), text) {
			t.Errorf("Keyword(%q): %t", text, Keyword(text))
		}
	}
}

// One byte that is another one, at each place of a statement, and one less, and one more.
func TestChangedBytes(t *testing.T) {
	const s = "select t.a, count(*) from t where b<>'it''s' and a>=-05 or c<9"
	for at := range len(s) {
		asMeant(t, s[:at])
		asMeant(t, s[at:])
		asMeant(t, s[:at]+s[at+1:])
		for b := range 256 {
			other := string([]byte{byte(b)})
			asMeant(t, s[:at]+other+s[at+1:])
			asMeant(t, s[:at]+other+s[at:])
		}
	}
}

// What was answered is its own: what a caller makes of it, and other calls, change nothing of it, nor of what is answered later.
func TestAnswersAreNewMemory(t *testing.T) {
	const s = "select a from t where b <= 'it''s' and c = 'plain' and d > -05"
	want, _, _ := meant(s)
	first, _, _ := Tokens(s)
	for k := range first {
		first[k] = api.Token{Kind: 9, S: "changed", N: 9, At: 9}
	}
	second, _, _ := Tokens(s)
	third, _, _ := Tokens(s)
	clear(first[:cap(first)])
	clear(third[:cap(third)])
	if grown := append(first, api.Token{Kind: 7}); len(grown) != len(first)+1 || !slices.Equal(second, want) {
		t.Errorf("%+v; wanted %+v", second, want)
	}
	if _, _, errno := Tokens("a ;"); errno != api.ErrParse || !slices.Equal(second, want) {
		t.Errorf("%+v; wanted %+v", second, want)
	}
	answers(t, s, want, 0, api.OK)
}

// What tokens say has no bytes of the text that was handed in.
func TestAnswersShareNothing(t *testing.T) {
	for _, p := range someParts() {
		bytes := []byte("a " + p.s)
		handed := unsafe.String(&bytes[0], len(bytes))
		l, _, errno := Tokens(handed)
		if errno != api.OK || len(l) != 3 {
			t.Fatal(p.s, l, errno)
		}
		for k := range bytes {
			bytes[k] = '#'
		}
		if want := said([]api.Token{wordAt(0, "a"), p.t, endAt(0)}); !slices.Equal(said(l), want) {
			t.Errorf("%q: %+v, when it was changed; wanted %+v", p.s, l, want)
		}
	}
}

// The same is answered again, whatever was asked between.
func TestAnswersHangOnArgumentsAlone(t *testing.T) {
	s := stir(4)
	var texts []string
	for range 500 {
		texts = append(texts, drawn(s))
	}
	for range 3 {
		for range texts {
			asMeant(t, one(s, texts))
			Keyword(one(s, keywords()))
		}
		for _, text := range texts {
			asMeant(t, text)
		}
	}
}
