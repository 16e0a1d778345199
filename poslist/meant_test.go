package poslist

import (
	"iter"
	"math"
	"peristyle/api"
	"peristyle/span"
	"peristyle/words"
	"slices"
	"testing"
)

const (
	most  = 1 << 16 // places that there are
	least = math.MinInt
	great = math.MaxInt
)

// noPlaces are numbers that are no places, some of which are like one in fewer bits, or behind a step below the least int.
var noPlaces = []int{-1, -2, -63, -64, -65, -most, -most - 1, most, most + 1, most + 64, 2 * most, 1 << 31, 1 << 32, 1<<32 + 1, -1 << 32, 1 << 62, least, least + 1, least + most, great - 1, great}

// noForms are numbers that are none of the three forms.
var noForms = []int{0, -1, -2, -3, 4, 5, 9, 257, 1 << 32, 1<<32 + 1, 1<<32 + 2, 1<<32 + 3, least, least + 1, least + 2, least + 3, great - 1, great}

// forms are the three, by their numbers.
func forms() []int { return []int{api.FormSpans, api.FormWords, api.FormPlaces} }

// stirrer gives numbers by a fixed rule.
type stirrer struct{ word uint64 }

func stir(seed int) *stirrer { return &stirrer{uint64(seed)*2 + 1} }

func (s *stirrer) below(n int) int {
	s.word = s.word*6364136223846793005 + 1442695040888963407
	return int(s.word >> 33 % uint64(n))
}

// places are some below n, rising: a few spans of them, some of a place alone, some without a few of theirs.
func (s *stirrer) places(n int) []int {
	in := make([]bool, n)
	for range s.below(6) {
		lo := s.below(n)
		hi := min(n, lo+1+s.below(1+n/(1+s.below(40))))
		keep := s.below(5) == 0
		for at := lo; at < hi; at++ {
			in[at] = keep || s.below(4) > 0
		}
	}
	for range s.below(6) {
		in[s.below(n)] = true
	}
	return where(0, n, func(at int) bool { return in[at] })
}

// shuffled are the same numbers in another order, and some of them again.
func (s *stirrer) shuffled(l []int) []int {
	l = slices.Clone(l)
	for range len(l) / 2 {
		l = append(l, l[s.below(len(l))])
	}
	for k := range l {
		other := s.below(k + 1)
		l[k], l[other] = l[other], l[k]
	}
	return l
}

// The chapter's words, of rising places, each once.

// where are the numbers from lo on, below hi, that are wanted.
func where(lo, hi int, wanted func(at int) bool) []int {
	var l []int
	for at := lo; at < hi; at++ {
		if wanted(at) {
			l = append(l, at)
		}
	}
	return l
}

// from are the places from one on, below another.
func from(lo, hi int) []int { return where(lo, hi, func(int) bool { return true }) }

// every are so many places, from one on, so far from each other.
func every(first, step, count int) []int {
	var l []int
	for k := range count {
		l = append(l, first+k*step)
	}
	return l
}

// bitsOf are the bits of a number that are set, the lowest of them a place that is told.
func bitsOf(number, first int) []int {
	return where(first, first+20, func(at int) bool { return number>>(at-first)%2 == 1 })
}

// spansOf are the spans of places.
func spansOf(places []int) []api.Span {
	var l []api.Span
	for k, at := range places {
		if k == 0 || places[k-1] != at-1 {
			l = append(l, api.Span{Lo: at, Hi: at})
		}
		l[len(l)-1].Hi++
	}
	return l
}

// costOf is what a form costs: 8 for each span, 8 for each word, 2 for each place.
func costOf(places []int, form int) int {
	switch {
	case form == api.FormSpans:
		return 8 * len(spansOf(places))
	case form == api.FormWords && len(places) > 0:
		return 8 * (places[len(places)-1]/64 + 1)
	case form == api.FormPlaces:
		return 2 * len(places)
	}
	return 0
}

// bestOf is the best form.
func bestOf(places []int) int {
	inSpans, inWords, inPlaces := costOf(places, api.FormSpans), costOf(places, api.FormWords), costOf(places, api.FormPlaces)
	switch {
	case inSpans <= inWords && inSpans <= inPlaces:
		return api.FormSpans
	case inWords <= inPlaces:
		return api.FormWords
	}
	return api.FormPlaces
}

// goes are the places that are in both, in one of them, and in the first alone.
func goes(a, b []int) (and, or, less []int) {
	inA, inB := make([]bool, most), make([]bool, most)
	end := 0
	for _, at := range a {
		inA[at], end = true, max(end, at+1)
	}
	for _, at := range b {
		inB[at], end = true, max(end, at+1)
	}
	return where(0, end, func(at int) bool { return inA[at] && inB[at] }),
		where(0, end, func(at int) bool { return inA[at] || inB[at] }),
		where(0, end, func(at int) bool { return inA[at] && !inB[at] })
}

// sliceOf are the places whose number is from or more, the first count of these.
func sliceOf(places []int, from, count int) []int {
	var l []int
	for number, at := range places {
		if number >= from && len(l) < count {
			l = append(l, at)
		}
	}
	return l
}

// sets are sets of places, of which each form is the best one of some.
func sets() map[string][]int {
	return map[string][]int{
		"none":                     nil,
		"the first":                {0},
		"the last":                 {most - 1},
		"the first and the last":   {0, most - 1},
		"the end of a word":        {63},
		"a word's first":           {64},
		"the example":              {3, 4, 5},
		"the example and 9":        {3, 4, 5, 9},
		"four":                     from(0, 4),
		"four in a later word":     from(1000, 1004),
		"a word":                   from(0, 64),
		"a later word":             from(128, 192),
		"across a border":          from(60, 70),
		"across many borders":      from(63, 321),
		"some across borders":      slices.Concat(from(3, 5), from(62, 66), from(127, 128), from(129, 200)),
		"odd ones":                 every(1, 2, 60),
		"odd ones of later words":  every(257, 2, 90),
		"far ones":                 every(5, 1000, 60),
		"all below 1000":           from(0, 1000),
		"all below 1000 but a few": slices.Concat(from(0, 200), from(201, 500), from(503, 1000)),
		"the end":                  from(most-70, most),
	}
}

// greatSets are sets of many places, or of many spans.
func greatSets() map[string][]int {
	return map[string][]int{
		"all":              from(0, most),
		"all but the last": from(0, most-1),
		"all but a midst":  slices.Concat(from(0, 30000), from(30001, most)),
		"all even ones":    every(0, 2, most/2),
		"all thirds":       every(2, 3, most/3),
		"each 64th":        every(63, 64, most/64),
	}
}

// What fails a test.

// short is a list as it is told: its beginning alone.
func short[T any](l []T) []T { return l[:min(len(l), 8)] }

// must is the list of an answer that may not be refused.
func must(t *testing.T) func(l List, errno api.Errno) List {
	return func(l List, errno api.Errno) List {
		t.Helper()
		if errno != api.OK {
			t.Fatalf("refused: %d", errno)
		}
		return l
	}
}

// in is the list of places in a form.
func in(t *testing.T, places []int, form int) List {
	t.Helper()
	return must(t)(Of(spansOf(places), form))
}

// told fails if a list does not tell to be these places, in that form, by each call but those that ask of one place.
func told(t *testing.T, l List, places []int, form int) {
	t.Helper()
	if l.Form() != form {
		t.Errorf("Form of %v..: %d, not %d", short(places), l.Form(), form)
	}
	if got := l.Spans(); !slices.Equal(got, spansOf(places)) || !span.May(got) {
		t.Errorf("Spans of %v.., form %d: %v..", short(places), form, short(got))
	}
	if got := slices.Collect(l.Places()); !slices.Equal(got, places) {
		t.Errorf("Places of %v.., form %d: %v.., %d, not %d", short(places), form, short(got), len(got), len(places))
	}
	if got := l.Count(); got != len(places) {
		t.Errorf("Count of %v.., form %d: %d, not %d", short(places), form, got, len(places))
	}
	for _, f := range forms() {
		if got, want := l.Cost(f), costOf(places, f); got != want {
			t.Errorf("Cost(%d) of %v.., form %d: %d, not %d", f, short(places), form, got, want)
		}
	}
}

// toldBest fails if a list does not tell to be these places, in their best form.
func toldBest(t *testing.T, l List, places []int) {
	t.Helper()
	told(t, l, places, bestOf(places))
}

// refused fails if what is told beside an error is not the empty set.
func refused(t *testing.T, what string, l List, errno api.Errno) {
	t.Helper()
	if errno != api.ErrArg {
		t.Errorf("%s: %d", what, errno)
	}
	told(t, l, nil, api.FormSpans)
}

// placeIs fails if Has and Rank do not answer that of a place.
func placeIs(t *testing.T, l List, at int, has bool, rank int) {
	t.Helper()
	if got := l.Has(at); got != has {
		t.Errorf("Has(%d), form %d: %t", at, l.Form(), got)
	}
	if got := l.Rank(at); got != rank {
		t.Errorf("Rank(%d), form %d: %d, not %d", at, l.Form(), got, rank)
	}
}

// picks fails if Pick does not answer that.
func picks(t *testing.T, l List, k, want int, wantErrno api.Errno) {
	t.Helper()
	if got, errno := l.Pick(k); got != want || errno != wantErrno {
		t.Errorf("Pick(%d), form %d: %d, %d, not %d, %d", k, l.Form(), got, errno, want, wantErrno)
	}
}

// toldOfNoPlaces fails if Has, Rank, Pick, Cost and As do not tell what they must of what is no place, no number and no form.
func toldOfNoPlaces(t *testing.T, l List, places []int) {
	t.Helper()
	for _, at := range noPlaces {
		rank := 0
		if at > 0 {
			rank = len(places)
		}
		placeIs(t, l, at, false, rank)
	}
	for _, k := range slices.Concat(noPlaces, []int{len(places), len(places) + 1, len(places) + 63}) {
		picks(t, l, k, 0, api.ErrNone)
	}
	for _, form := range noForms {
		if got := l.Cost(form); got != 0 {
			t.Errorf("Cost(%d) of %v..: %d", form, short(places), got)
		}
		as, errno := l.As(form)
		refused(t, "As", as, errno)
	}
}

// toldByPlaces fails if Has, Rank and Pick do not tell of a list what they must, at each place from below the first to behind the last, and of each number.
func toldByPlaces(t *testing.T, l List, places []int) {
	t.Helper()
	lo, hi := 0, 0
	if len(places) > 0 {
		lo, hi = places[0], places[len(places)-1]
	}
	rank := 0
	for at := lo - 66; at <= hi+66; at++ {
		has := rank < len(places) && places[rank] == at
		placeIs(t, l, at, has, rank)
		if has {
			picks(t, l, rank, at, api.OK)
			rank++
		}
		if t.Failed() {
			t.FailNow()
		}
	}
	picks(t, l, rank, 0, api.ErrNone)
}

// whole fails if a list does not tell to be these places, in that form, by each call.
func whole(t *testing.T, l List, places []int, form int) {
	t.Helper()
	told(t, l, places, form)
	toldOfNoPlaces(t, l, places)
	toldByPlaces(t, l, places)
}

// calls are And, Or and Less, by their names.
func calls() map[string]func(a, b List) List {
	return map[string]func(a, b List) List{"And": List.And, "Or": List.Or, "Less": List.Less}
}

// spanCalls are those of layer 14, by the same names.
func spanCalls() map[string]func(a, b []api.Span) ([]api.Span, api.Errno) {
	return map[string]func(a, b []api.Span) ([]api.Span, api.Errno){"And": span.And, "Or": span.Or, "Less": span.Less}
}

// wordCalls are those of layer 15, by the same names.
func wordCalls() map[string]func(a, b []int) ([]int, api.Errno) {
	return map[string]func(a, b []int) ([]int, api.Errno){"And": words.And, "Or": words.Or, "Less": words.Less}
}

// pairs goes over the lists of two sets of places, in all nine pairs of forms.
func pairs(t *testing.T, a, b []int) iter.Seq2[List, List] {
	return func(yield func(List, List) bool) {
		for _, formA := range forms() {
			for _, formB := range forms() {
				if !yield(in(t, a, formA), in(t, b, formB)) {
					return
				}
			}
		}
	}
}

// goAs fails if And, Or and Less of two sets, in any forms, do not answer those places in the best form.
func goAs(t *testing.T, a, b, and, or, less []int) {
	t.Helper()
	for listA, listB := range pairs(t, a, b) {
		for name, want := range map[string][]int{"And": and, "Or": or, "Less": less} {
			got := calls()[name](listA, listB)
			if found := slices.Collect(got.Places()); got.Form() != bestOf(want) || !slices.Equal(found, want) || !slices.Equal(got.Spans(), spansOf(want)) || got.Count() != len(want) {
				t.Errorf("%s of %v.. and %v.., forms %d and %d: %v.., form %d, not %v.., form %d", name, short(a), short(b), listA.Form(), listB.Form(), short(found), got.Form(), short(want), bestOf(want))
			}
		}
		if t.Failed() {
			told(t, listA, a, listA.Form())
			told(t, listB, b, listB.Form())
			t.FailNow()
		}
	}
}

// goAsMeant fails if two sets, in any forms and in both orders, do not go together as their places do.
func goAsMeant(t *testing.T, a, b []int) {
	t.Helper()
	and, or, less := goes(a, b)
	goAs(t, a, b, and, or, less)
	_, _, less = goes(b, a)
	goAs(t, b, a, and, or, less)
}

// slicesAs fails if Slice of a set, in any form, does not answer those places in the best form.
func slicesAs(t *testing.T, places []int, from, count int, want []int) {
	t.Helper()
	for _, form := range forms() {
		got := in(t, places, form).Slice(from, count)
		if found := slices.Collect(got.Places()); got.Form() != bestOf(want) || !slices.Equal(found, want) || !slices.Equal(got.Spans(), spansOf(want)) || got.Count() != len(want) {
			t.Errorf("Slice(%d, %d) of %v.., form %d: %v.., form %d, not %v.., form %d", from, count, short(places), form, short(found), got.Form(), short(want), bestOf(want))
		}
	}
}
