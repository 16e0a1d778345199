package words

import (
	"math"
	"math/big"
	"peristyle/api"
	"peristyle/span"
	"slices"
	"testing"
)

const (
	most     = 1 << 16     // places that there are
	mostLong = 1 << 10     // words that there are, at most
	top      = math.MinInt // the word of the top bit alone
)

// noPlaces are numbers that are no places, some of which are like one in fewer bits, or behind a step below the least int.
var noPlaces = []int{-1, -2, -63, -64, -65, -most, -most - 1, most, most + 1, most + 64, 2 * most, 1 << 31, 1 << 32, 1<<32 + 1, -1 << 32, 1 << 62, math.MinInt, math.MinInt + 1, math.MinInt + most, math.MaxInt - 1, math.MaxInt}

// stirrer gives numbers by a fixed rule.
type stirrer struct{ word uint64 }

func stir(seed int) *stirrer { return &stirrer{uint64(seed)*2 + 1} }

func (s *stirrer) below(n int) int {
	s.word = s.word*6364136223846793005 + 1442695040888963407
	return int(s.word >> 33 % uint64(n))
}

// words are so many at most that may be: some of them 0, some of few places, some of many, some of all.
func (s *stirrer) words(longest int) []int {
	l := make([]int, s.below(longest+1))
	for k := range l {
		many := s.below(1<<16)<<48 | s.below(1<<16)<<32 | s.below(1<<16)<<16 | s.below(1<<16)
		few := 1<<s.below(64) | 1<<s.below(64)
		l[k] = []int{0, 0, few, many, many, ^few, -1, -1 << s.below(64), 1<<s.below(64) - 1}[s.below(9)]
	}
	return cut(l)
}

// cut are words without those at the end that are 0.
func cut(l []int) []int {
	for len(l) > 0 && l[len(l)-1] == 0 {
		l = l[:len(l)-1]
	}
	return l
}

// The chapter's words.

// mayWords tells whether words may be.
func mayWords(l []int) bool {
	switch {
	case len(l) == 0:
		return true
	case len(l) > mostLong:
		return false
	}
	return l[len(l)-1] != 0
}

// placesOf are the places of words, rising: 64 k + b of each bit b of the word k.
func placesOf(l []int) []int {
	var places []int
	for k, word := range l {
		rest := uint64(word)
		for b := range 64 {
			if rest%2 == 1 {
				places = append(places, 64*k+b)
			}
			rest /= 2
		}
	}
	return places
}

// isIn tells whether a place is one of words.
func isIn(l []int, at int) bool {
	return at >= 0 && at < 64*len(l) && new(big.Int).SetUint64(uint64(l[at/64])).Bit(at%64) == 1
}

// wordsOf are the words that may be of some places.
func wordsOf(places []int) []int {
	if len(places) == 0 {
		return nil
	}
	sums := make([]uint64, slices.Max(places)/64+1)
	for _, at := range places {
		power := uint64(1)
		for range at % 64 {
			power *= 2
		}
		sums[at/64] += power
	}
	l := make([]int, len(sums))
	for k, sum := range sums {
		l[k] = int(sum)
	}
	return l
}

// spansOf are the spans of rising places.
func spansOf(places []int) []api.Span {
	var l []api.Span
	for k, at := range places {
		if k == 0 || places[k-1] != at-1 {
			l = append(l, api.Span{Lo: at, Hi: at})
		}
		l[len(l)-1].Hi++
	}
	return l
}

// from are the places from one on, below another.
func from(lo, hi int) []int {
	var places []int
	for at := lo; at < hi; at++ {
		places = append(places, at)
	}
	return places
}

// all are the words of all places.
func all() []int { return slices.Repeat([]int{-1}, mostLong) }

// goes are the words of the places that are in both, in one of them, and in the first alone of two lists that may be.
func goes(a, b []int) (and, or, less []int) {
	var both, either, alone []int
	for at := range 64 * max(len(a), len(b)) {
		inA, inB := isIn(a, at), isIn(b, at)
		if inA && inB {
			both = append(both, at)
		}
		if inA || inB {
			either = append(either, at)
		}
		if inA && !inB {
			alone = append(alone, at)
		}
	}
	return wordsOf(both), wordsOf(either), wordsOf(alone)
}

// notOf are the words of the places below n that are not in words.
func notOf(l []int, n int) []int {
	var others []int
	for at := range n {
		if !isIn(l, at) {
			others = append(others, at)
		}
	}
	return wordsOf(others)
}

// What fails a test.

// short is a list as it is told: its beginning alone.
func short[T any](l []T) []T { return l[:min(len(l), 8)] }

// isOf fails if Of does not answer those words.
func isOf(t *testing.T, l []api.Span, want []int) {
	t.Helper()
	if got, errno := Of(l); !slices.Equal(got, want) || errno != api.OK || !mayWords(got) {
		t.Errorf("Of(%v..), %d spans: %#x.., %d words, %d, not %#x.., %d", short(l), len(l), short(got), len(got), errno, short(want), len(want))
	}
}

// ofNone fails if Of does not refuse.
func ofNone(t *testing.T, l []api.Span) {
	t.Helper()
	if got, errno := Of(l); len(got) != 0 || errno != api.ErrArg {
		t.Errorf("Of(%v..), %d spans: %#x.., %d", short(l), len(l), short(got), errno)
	}
}

// hasSpans fails if Spans does not answer those.
func hasSpans(t *testing.T, l []int, want []api.Span) {
	t.Helper()
	if got, errno := Spans(l); !slices.Equal(got, want) || errno != api.OK || !span.May(got) {
		t.Errorf("Spans(%#x..), %d words: %v.., %d spans, %d, not %v.., %d", short(l), len(l), short(got), len(got), errno, short(want), len(want))
	}
}

// picks fails if Pick does not answer that.
func picks(t *testing.T, l []int, k, want int, wantErrno api.Errno) {
	t.Helper()
	if got, errno := Pick(l, k); got != want || errno != wantErrno {
		t.Errorf("Pick(%#x.., %d), %d words: %d, %d, not %d, %d", short(l), k, len(l), got, errno, want, wantErrno)
	}
}

// placeIs fails if Has and Rank do not answer that of a place.
func placeIs(t *testing.T, l []int, at int, has bool, rank int) {
	t.Helper()
	if got := Has(l, at); got != has {
		t.Errorf("Has(%#x.., %d), %d words: %t", short(l), at, len(l), got)
	}
	if got := Rank(l, at); got != rank {
		t.Errorf("Rank(%#x.., %d), %d words: %d, not %d", short(l), at, len(l), got, rank)
	}
}

// isNot fails if Not does not answer those words.
func isNot(t *testing.T, l []int, n int, want []int) {
	t.Helper()
	if got, errno := Not(l, n); !slices.Equal(got, want) || errno != api.OK || !mayWords(got) {
		t.Errorf("Not(%#x.., %d), %d words: %#x.., %d words, %d, not %#x.., %d", short(l), n, len(l), short(got), len(got), errno, short(want), len(want))
	}
}

// notNone fails if Not does not refuse.
func notNone(t *testing.T, l []int, n int) {
	t.Helper()
	if got, errno := Not(l, n); len(got) != 0 || errno != api.ErrArg {
		t.Errorf("Not(%#x.., %d), %d words: %#x.., %d", short(l), n, len(l), short(got), errno)
	}
}

// calls are And, Or and Less, by their names.
func calls() map[string]func(a, b []int) ([]int, api.Errno) {
	return map[string]func(a, b []int) ([]int, api.Errno){"And": And, "Or": Or, "Less": Less}
}

// spanCalls are those of layer 14, by the same names.
func spanCalls() map[string]func(a, b []api.Span) ([]api.Span, api.Errno) {
	return map[string]func(a, b []api.Span) ([]api.Span, api.Errno){"And": span.And, "Or": span.Or, "Less": span.Less}
}

// goNot fails if And, Or and Less do not refuse.
func goNot(t *testing.T, a, b []int) {
	t.Helper()
	for name, call := range calls() {
		if got, errno := call(a, b); len(got) != 0 || errno != api.ErrArg {
			t.Errorf("%s(%#x.., %#x..), %d and %d words: %#x.., %d", name, short(a), short(b), len(a), len(b), short(got), errno)
		}
	}
}

// areTogether fails if And, Or and Less of two do not answer those words.
func areTogether(t *testing.T, a, b, and, or, less []int) {
	t.Helper()
	for name, want := range map[string][]int{"And": and, "Or": or, "Less": less} {
		got, errno := calls()[name](a, b)
		if !slices.Equal(got, want) || errno != api.OK || !May(got) || !mayWords(got) {
			t.Errorf("%s(%#x.., %#x..), %d and %d words: %#x.., %d words, %d, not %#x.., %d", name, short(a), short(b), len(a), len(b), short(got), len(got), errno, short(want), len(want))
		}
	}
}

// togetherAsMeant fails if two, in both orders, do not go together as their places do.
func togetherAsMeant(t *testing.T, a, b []int) {
	t.Helper()
	and, or, less := goes(a, b)
	areTogether(t, a, b, and, or, less)
	and, or, less = goes(b, a)
	areTogether(t, b, a, and, or, less)
}

// refused fails if words that may not be are not told so by each call.
func refused(t *testing.T, l []int) {
	t.Helper()
	if May(l) {
		t.Errorf("May of %d words, %#x..", len(l), short(l))
	}
	if got, errno := Spans(l); len(got) != 0 || errno != api.ErrArg {
		t.Errorf("Spans(%#x..), %d words: %v.., %d", short(l), len(l), short(got), errno)
	}
	if got := Count(l); got != 0 {
		t.Errorf("Count(%#x..), %d words: %d", short(l), len(l), got)
	}
	for _, at := range slices.Concat(noPlaces, []int{0, 1, 2, 62, 63, 64, 65, 127, 128, most - 1}) {
		placeIs(t, l, at, false, 0)
		picks(t, l, at, 0, api.ErrArg)
		notNone(t, l, at)
	}
	for _, other := range [][]int{nil, {1}, {0, 5}, all(), {0}, {1, 0}, make([]int, mostLong+1), l} {
		goNot(t, l, other)
		goNot(t, other, l)
	}
}

// told fails if words that may be are not told so by each call of one list alone, but for Not.
func told(t *testing.T, l []int) {
	t.Helper()
	if !May(l) {
		t.Errorf("May not of %d words, %#x..", len(l), short(l))
	}
	places := placesOf(l)
	spans := spansOf(places)
	hasSpans(t, l, spans)
	isOf(t, spans, l)
	if got := Count(l); got != len(places) {
		t.Errorf("Count(%#x..), %d words: %d, not %d", short(l), len(l), got, len(places))
	}
	for _, at := range noPlaces {
		rank := 0
		if at > 0 {
			rank = len(places)
		}
		placeIs(t, l, at, false, rank)
	}
	for _, k := range slices.Concat(noPlaces, []int{len(places), len(places) + 1, len(places) + 63}) {
		picks(t, l, k, 0, api.ErrNone)
	}
}

// toldByPlaces fails if Has, Rank and Pick do not tell of words that may be what they must, at each place from below the first to behind the last, and of each number.
func toldByPlaces(t *testing.T, l []int) {
	t.Helper()
	rank := 0
	for at := -66; at <= 64*len(l)+66; at++ {
		has := isIn(l, at)
		placeIs(t, l, at, has, rank)
		if has {
			picks(t, l, rank, at, api.OK)
			rank++
		}
		if t.Failed() {
			t.FailNow()
		}
	}
	picks(t, l, -1, 0, api.ErrNone)
	picks(t, l, rank, 0, api.ErrNone)
}

// asMeant fails if words are not told to be what they are; true, if they may be.
func asMeant(t *testing.T, l []int) bool {
	t.Helper()
	if !mayWords(l) {
		refused(t, l)
		return false
	}
	told(t, l)
	return true
}
