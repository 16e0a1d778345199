package lex

import (
	"fmt"
	"math"
	"math/big"
	"peristyle/api"
	"regexp"
	"slices"
	"strings"
	"testing"
)

const (
	mostBytes = 1024 // of a statement
	mostText  = 32   // bytes of a text
	least     = math.MinInt
	great     = math.MaxInt
	letters   = "abcdefghijklmnopqrstuvwxyz"
	digits    = "0123456789"
	inWords   = letters + digits + "_"
	allBlanks = "\x20\x09\x0a\x0d"
	allSigns  = "(),.*=<>"
)

// The signs, all of them, and those with which no other one begins; and blanks.
var (
	someSigns  = []string{"(", ")", ",", ".", "*", "=", "<", ">", "<=", ">=", "<>"}
	plainSigns = []string{"(", ")", ",", ".", "*", "=", "<=", ">=", "<>"}
	someBlanks = []string{" ", "\t", "\n", "\r", "  ", " \t\n\r", "\r\n\r\n", strings.Repeat("\t ", 40)}
)

// keywords are those of the chapter.
func keywords() []string {
	return strings.Fields("advance and at by count create delete desc drop forget from group hint insert int into is join keys limit max min move not null on or order projection select sum table text using values where")
}

// stirrer gives numbers by a fixed rule.
type stirrer struct{ word uint64 }

func stir(seed int) *stirrer { return &stirrer{uint64(seed)*2 + 1} }

func (s *stirrer) below(n int) int {
	s.word = s.word*6364136223846793005 + 1442695040888963407
	return int(s.word >> 33 % uint64(n))
}

// one is one of some.
func one[T any](s *stirrer, l []T) T { return l[s.below(len(l))] }

// many is a text so often, one directly behind the other.
func many(s string, count int) string { return strings.Repeat(s, count) }

// Tokens of each kind, by where they begin and what they say.

func wordAt(at int, s string) api.Token { return api.Token{Kind: 1, S: s, At: at} }

func numberAt(at, n int) api.Token { return api.Token{Kind: 2, N: n, At: at} }

func textAt(at int, s string) api.Token { return api.Token{Kind: 3, S: s, At: at} }

func signAt(at int, s string) api.Token { return api.Token{Kind: 4, S: s, At: at} }

func endAt(at int) api.Token { return api.Token{Kind: 0, At: at} }

// shown is a text as it is written.
func shown(s string) string { return "'" + strings.ReplaceAll(s, "'", "''") + "'" }

// The chapter's words, as patterns. That of a text also finds the beginning of one without an end, behind which a quote stands.
var (
	wordMeant   = regexp.MustCompile(`^[a-z][a-z0-9_]*`)
	numberMeant = regexp.MustCompile(`^-?[0-9]+`)
	textMeant   = regexp.MustCompile(`^'(?:[^']|'')*'`)
	signMeant   = regexp.MustCompile(`^(?:<=|>=|<>|[(),.*=<>])`)
)

// meant is what Tokens is to answer.
func meant(s string) ([]api.Token, int, api.Errno) {
	if len(s) > mostBytes {
		return nil, 0, 4
	}
	var l []api.Token
	for at := 0; at < len(s); {
		if strings.IndexByte(allBlanks, s[at]) >= 0 {
			at++
			continue
		}
		t, bytes := meantFirst(s[at:])
		if bytes == 0 {
			return nil, at, 300
		}
		t.At = at
		l = append(l, t)
		at += bytes
	}
	return append(l, endAt(len(s))), 0, 0
}

// meantFirst is the token that a text begins with, and how many bytes it has: 0, if it begins with none.
func meantFirst(s string) (api.Token, int) {
	if w := wordMeant.FindString(s); w != "" {
		return wordAt(0, w), len(w)
	}
	if w := signMeant.FindString(s); w != "" {
		return signAt(0, w), len(w)
	}
	if w := numberMeant.FindString(s); w != "" {
		n, _ := new(big.Int).SetString(w, 10)
		if n.IsInt64() && (w[0] != '-' || n.Sign() != 0) {
			return numberAt(0, int(n.Int64())), len(w)
		}
	}
	if w := textMeant.FindString(s); w != "" && !strings.HasPrefix(s[len(w):], "'") {
		if says := strings.ReplaceAll(w[1:len(w)-1], "''", "'"); len(says) <= mostText {
			return textAt(0, says), len(w)
		}
	}
	return api.Token{}, 0
}

// short is a text, or its beginning, if it is too long to be told.
func short(s string) string {
	if len(s) > 200 {
		return s[:200] + " and more"
	}
	return s
}

// answers fails if Tokens of a text does not answer what is wanted.
func answers(t *testing.T, s string, l []api.Token, at int, errno api.Errno) {
	t.Helper()
	gotL, gotAt, gotErrno := Tokens(s)
	if !slices.Equal(gotL, l) || gotAt != at || gotErrno != errno {
		t.Errorf("Tokens(%q), %d bytes: %s, %d, %d; wanted %s, %d, %d", short(s), len(s), short(fmt.Sprintf("%+v", gotL)), gotAt, gotErrno, short(fmt.Sprintf("%+v", l)), at, errno)
	}
}

// tokens fails if a text has not some tokens, and behind them its end.
func tokens(t *testing.T, s string, want ...api.Token) {
	t.Helper()
	answers(t, s, append(slices.Clone(want), endAt(len(s))), 0, 0)
}

// wrong fails if in a text the first token that is none is not told to begin somewhere.
func wrong(t *testing.T, s string, at int) {
	t.Helper()
	answers(t, s, nil, at, 300)
}

// tooLong fails if a text is not told to be too long.
func tooLong(t *testing.T, s string) {
	t.Helper()
	answers(t, s, nil, 0, 4)
}

// asMeant fails if a text's tokens are not those that the chapter means.
func asMeant(t *testing.T, s string) {
	t.Helper()
	l, at, errno := meant(s)
	answers(t, s, l, at, errno)
}

// allOf are all texts of some pieces, up to so many of them.
func allOf(pieces []string, most int) []string {
	all := []string{""}
	for from := 0; most > 0; most-- {
		to := len(all)
		for _, s := range all[from:to] {
			for _, piece := range pieces {
				all = append(all, s+piece)
			}
		}
		from = to
	}
	return all
}

// part is a token as it may be written, and the token.
type part struct {
	s string
	t api.Token
}

// someParts are tokens of each kind, at the edges of what they may be.
func someParts() []part {
	var l []part
	for _, s := range []string{"a", "z", "a_", "a0", "m9_z", "select", "null", "selec", letters, many("q", 100)} {
		l = append(l, part{s, wordAt(0, s)})
	}
	for s, n := range map[string]int{"0": 0, "7": 7, "-1": -1, "007": 7, "-010": -10, "000": 0, "9223372036854775807": great, "-9223372036854775808": least, "-00009223372036854775808": least, many("0", 60) + "10": 10} {
		l = append(l, part{s, numberAt(0, n)})
	}
	for _, s := range []string{"", "x", "'", "''", "it's", "'x'", " ", "\t\n\r ", "-5", "a b", "\x00\xff", ";", many("x", mostText), many("'", mostText), many("\xff", mostText)} {
		l = append(l, part{shown(s), textAt(0, s)})
	}
	for _, s := range someSigns {
		l = append(l, part{s, signAt(0, s)})
	}
	// A map's order may not tell what is tested.
	slices.SortFunc(l, func(a, b part) int { return strings.Compare(a.s, b.s) })
	return l
}

// said is what tokens say, wherever they begin.
func said(l []api.Token) []api.Token {
	l = slices.Clone(l)
	for k := range l {
		l[k].At = 0
	}
	return l
}
