package span

import (
	"math"
	"peristyle/api"
	"slices"
	"testing"
)

const most = 1 << 16 // places that there are

// noPlaces are numbers that are no places, some of which are like one in fewer bits.
var noPlaces = []int{-1, -2, -most, -most - 1, most, most + 1, 2 * most, 1 << 31, 1 << 32, 1<<32 + 1, -1 << 32, 1 << 62, math.MinInt, math.MinInt + 1, math.MaxInt - 1, math.MaxInt}

// stirrer gives numbers by a fixed rule.
type stirrer struct{ word uint64 }

func stir(seed int) *stirrer { return &stirrer{uint64(seed)*2 + 1} }

func (s *stirrer) below(n int) int {
	s.word = s.word*6364136223846793005 + 1442695040888963407
	return int(s.word >> 33 % uint64(n))
}

// spans are so many that may be, as long as that, and as far apart, at most; fewer, if the places end.
func (s *stirrer) spans(count, longest, farthest int) []api.Span {
	var l []api.Span
	at := s.below(farthest + 1)
	for range count {
		one := api.Span{Lo: at, Hi: at + 1 + s.below(longest)}
		if one.Hi > most {
			break
		}
		l, at = append(l, one), one.Hi+1+s.below(farthest)
	}
	return l
}

// The chapter's words.

// maySpans tells whether spans may be.
func maySpans(l []api.Span) bool {
	for k, s := range l {
		if s.Lo < 0 || s.Lo >= s.Hi || s.Hi > most {
			return false
		}
		if k > 0 && s.Lo <= l[k-1].Hi {
			return false
		}
	}
	return true
}

// isIn tells whether a place is in one of spans.
func isIn(l []api.Span, at int) bool {
	for _, s := range l {
		if at >= s.Lo && at < s.Hi {
			return true
		}
	}
	return false
}

// set is which of the places are in it, from 0 on; behind its end none are.
type set []bool

func (s set) has(at int) bool { return at >= 0 && at < len(s) && s[at] }

// setOf is the set of the places of spans that may be.
func setOf(l []api.Span) set {
	if len(l) == 0 {
		return nil
	}
	made := make(set, l[len(l)-1].Hi)
	for _, s := range l {
		for at := s.Lo; at != s.Hi; at++ {
			made[at] = true
		}
	}
	return made
}

// placed is the set of some places.
func placed(l []int) set {
	made := make(set, most)
	for _, at := range l {
		made[at] = true
	}
	return made
}

// places are those of a set, rising.
func (s set) places() []int {
	var l []int
	for at, in := range s {
		if in {
			l = append(l, at)
		}
	}
	return l
}

// spans are those of a set: of each place that is in it, and the one ahead not, up to the next one that is not.
func (s set) spans() []api.Span {
	var l []api.Span
	for at := range s {
		if s.has(at) && !s.has(at-1) {
			end := at
			for s.has(end) {
				end++
			}
			l = append(l, api.Span{Lo: at, Hi: end})
		}
	}
	return l
}

// goes are the spans of the places that are in both, in one of them, and in the first alone of two sets.
func (s set) goes(other set) (and, or, less []api.Span) {
	both, either, alone := make(set, max(len(s), len(other))), make(set, max(len(s), len(other))), make(set, max(len(s), len(other)))
	for at := range either {
		a, b := s.has(at), other.has(at)
		both[at], either[at], alone[at] = a && b, a || b, a && !b
	}
	return both.spans(), either.spans(), alone.spans()
}

// short is a list as it is told: its beginning alone.
func short[T any](l []T) []T { return l[:min(len(l), 20)] }

// tell fails with what a call answered.
func tell[Got, Want any](t *testing.T, call string, l []api.Span, got Got, errno api.Errno, want Want) {
	t.Helper()
	t.Errorf("%s of %d spans, %v..: %v, %d, not %v", call, len(l), short(l), got, errno, want)
}

// isOf fails if Of does not answer those spans.
func isOf(t *testing.T, l []int, want []api.Span) {
	t.Helper()
	if got, errno := Of(l); !slices.Equal(got, want) || errno != api.OK {
		t.Errorf("Of(%d..), %d places: %v.., %d spans, %d, not %v.., %d", short(l), len(l), short(got), len(got), errno, short(want), len(want))
	}
}

// ofNone fails if Of does not refuse.
func ofNone(t *testing.T, l []int) {
	t.Helper()
	if got, errno := Of(l); len(got) != 0 || errno != api.ErrArg {
		t.Errorf("Of(%d..), %d places: %v.., %d", short(l), len(l), short(got), errno)
	}
}

// picks fails if Pick does not answer that.
func picks(t *testing.T, l []api.Span, k, want int, wantErrno api.Errno) {
	t.Helper()
	if got, errno := Pick(l, k); got != want || errno != wantErrno {
		t.Errorf("Pick(%v.., %d), %d spans: %d, %d, not %d, %d", short(l), k, len(l), got, errno, want, wantErrno)
	}
}

// placeIs fails if Has and Rank do not answer that of a place.
func placeIs(t *testing.T, l []api.Span, at int, has bool, rank int) {
	t.Helper()
	if got := Has(l, at); got != has {
		t.Errorf("Has(%v.., %d), %d spans: %t", short(l), at, len(l), got)
	}
	if got := Rank(l, at); got != rank {
		t.Errorf("Rank(%v.., %d), %d spans: %d, not %d", short(l), at, len(l), got, rank)
	}
}

// refused fails if spans that may not be are not told so by each call.
func refused(t *testing.T, l []api.Span) {
	t.Helper()
	if May(l) {
		t.Errorf("May of %d spans, %v..", len(l), short(l))
	}
	if got, errno := Places(l); len(got) != 0 || errno != api.ErrArg {
		tell(t, "Places", l, short(got), errno, api.ErrArg)
	}
	if got := Count(l); got != 0 {
		tell(t, "Count", l, got, api.OK, 0)
	}
	for _, at := range []int{math.MinInt, -1, 0, 1, 2, 3, 4, 5, most - 1, most, math.MaxInt} {
		placeIs(t, l, at, false, 0)
		picks(t, l, at, 0, api.ErrArg)
	}
	if len(l) > 0 {
		placeIs(t, l, l[0].Lo, false, 0)
		placeIs(t, l, l[len(l)-1].Hi, false, 0)
	}
	for _, other := range [][]api.Span{nil, {{Lo: 0, Hi: most}}, {{Lo: 2, Hi: 4}, {Lo: 7, Hi: 8}}, l} {
		goNot(t, l, other)
		goNot(t, other, l)
	}
}

// goNot fails if And, Or and Less do not refuse.
func goNot(t *testing.T, a, b []api.Span) {
	t.Helper()
	for name, call := range calls() {
		if got, errno := call(a, b); len(got) != 0 || errno != api.ErrArg {
			t.Errorf("%s(%v.., %v..): %v.., %d", name, short(a), short(b), short(got), errno)
		}
	}
}

// calls are And, Or and Less, by their names.
func calls() map[string]func(a, b []api.Span) ([]api.Span, api.Errno) {
	return map[string]func(a, b []api.Span) ([]api.Span, api.Errno){"And": And, "Or": Or, "Less": Less}
}

// told fails if spans that may be are not told so by each call but And, Or and Less.
func told(t *testing.T, l []api.Span) {
	t.Helper()
	if !May(l) {
		t.Errorf("May not of %d spans, %v..", len(l), short(l))
	}
	want := setOf(l)
	places := want.places()
	if got, errno := Places(l); !slices.Equal(got, places) || errno != api.OK {
		tell(t, "Places", l, short(got), errno, short(places))
	}
	if got := Count(l); got != len(places) {
		tell(t, "Count", l, got, api.OK, len(places))
	}
	isOf(t, places, l)
	for _, at := range noPlaces {
		placeIs(t, l, at, false, below(places, at))
	}
	for _, k := range []int{-1, -2, len(places), len(places) + 1, most, math.MinInt, math.MinInt + 1, math.MaxInt, math.MaxInt - 1} {
		if k < 0 || k >= len(places) {
			picks(t, l, k, 0, api.ErrNone)
		}
	}
}

// below is how many of rising places are below one.
func below(places []int, at int) int {
	k := 0
	for k < len(places) && places[k] < at {
		k++
	}
	return k
}

// toldByPlaces fails if Has, Rank and Pick do not tell of spans that may be what they must, at each place from below the first to behind the last.
func toldByPlaces(t *testing.T, l []api.Span) {
	t.Helper()
	first, behind := 0, 0
	if len(l) > 0 {
		first, behind = l[0].Lo, l[len(l)-1].Hi
	}
	rank := 0
	for at := first - 2; at <= behind+2; at++ {
		has := isIn(l, at)
		placeIs(t, l, at, has, rank)
		if has {
			picks(t, l, rank, at, api.OK)
			rank++
		}
		if t.Failed() {
			t.FailNow()
		}
	}
	picks(t, l, rank, 0, api.ErrNone)
}

// asMeant fails if spans are not told to be what they are; true, if they may be.
func asMeant(t *testing.T, l []api.Span) bool {
	t.Helper()
	if !maySpans(l) {
		refused(t, l)
		return false
	}
	told(t, l)
	return true
}

// together fails if And, Or and Less of two do not answer those spans.
func together(t *testing.T, a, b, and, or, less []api.Span) {
	t.Helper()
	for name, want := range map[string][]api.Span{"And": and, "Or": or, "Less": less} {
		got, errno := calls()[name](a, b)
		if !slices.Equal(got, want) || errno != api.OK {
			t.Errorf("%s(%v.., %v..): %v.., %d, not %v..", name, short(a), short(b), short(got), errno, short(want))
		}
		if !May(got) || !maySpans(got) {
			t.Errorf("%s(%v.., %v..): %v.., that may not be", name, short(a), short(b), short(got))
		}
	}
}

// togetherAsMeant fails if two, in both orders, do not go together as their places do.
func togetherAsMeant(t *testing.T, a, b []api.Span) {
	t.Helper()
	and, or, less := setOf(a).goes(setOf(b))
	together(t, a, b, and, or, less)
	and, or, less = setOf(b).goes(setOf(a))
	together(t, b, a, and, or, less)
}
