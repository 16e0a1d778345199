package span

import (
	"math"
	"math/bits"
	"peristyle/api"
	"slices"
	"testing"
)

// all is the span of all places.
func all() []api.Span { return []api.Span{{Lo: 0, Hi: most}} }

// everyOther are the spans of one place each, from a place on, with one place between.
func everyOther(from int) []api.Span {
	var l []api.Span
	for at := from; at < most; at += 2 {
		l = append(l, api.Span{Lo: at, Hi: at + 1})
	}
	return l
}

// bitsOf are the spans of the bits of a word that are set, the lowest of them a place that is told.
func bitsOf(word, from int) []api.Span {
	s := make(set, bits.Len(uint(word)))
	for bit := range s {
		s[bit] = word>>bit%2 == 1
	}
	l := s.spans()
	for k := range l {
		l[k].Lo += from
		l[k].Hi += from
	}
	return l
}

// with are spans, and others behind them.
func with(l []api.Span, others ...api.Span) []api.Span { return slices.Concat(l, others) }

// Sp1

func TestExample(t *testing.T) {
	l := []api.Span{{Lo: 3, Hi: 5}, {Lo: 7, Hi: 8}}
	isOf(t, []int{3, 4, 7}, l)
	told(t, l)
	toldByPlaces(t, l)
	if got, errno := Places(l); !slices.Equal(got, []int{3, 4, 7}) || errno != api.OK || Count(l) != 3 || !May(l) {
		t.Error(got, errno, Count(l), May(l))
	}
	placeIs(t, l, 2, false, 0)
	placeIs(t, l, 3, true, 0)
	placeIs(t, l, 4, true, 1)
	placeIs(t, l, 5, false, 2)
	placeIs(t, l, 6, false, 2)
	placeIs(t, l, 7, true, 2)
	placeIs(t, l, 8, false, 3)
	picks(t, l, -1, 0, api.ErrNone)
	picks(t, l, 0, 3, api.OK)
	picks(t, l, 1, 4, api.OK)
	picks(t, l, 2, 7, api.OK)
	picks(t, l, 3, 0, api.ErrNone)
}

func TestNoSpans(t *testing.T) {
	for _, l := range [][]api.Span{nil, {}} {
		told(t, l)
		toldByPlaces(t, l)
		for _, k := range slices.Concat(noPlaces, []int{0, 1, 2, most - 1}) {
			placeIs(t, l, k, false, 0)
			picks(t, l, k, 0, api.ErrNone)
		}
	}
	isOf(t, nil, nil)
	isOf(t, []int{}, nil)
}

func TestOneSpan(t *testing.T) {
	for _, lo := range []int{0, 1, 2, 63, 64, 65, 255, 256, most/2 - 1, most / 2, most - 64, most - 2, most - 1} {
		for _, hi := range []int{lo + 1, lo + 2, lo + 64, most/2 - 1, most / 2, most/2 + 1, most - 1, most} {
			if hi <= lo || hi > most {
				continue
			}
			l := []api.Span{{Lo: lo, Hi: hi}}
			told(t, l)
			placeIs(t, l, lo-1, false, 0)
			placeIs(t, l, lo, true, 0)
			placeIs(t, l, hi-1, true, hi-lo-1)
			placeIs(t, l, hi, false, hi-lo)
			placeIs(t, l, math.MinInt, false, 0)
			placeIs(t, l, math.MaxInt, false, hi-lo)
			picks(t, l, 0, lo, api.OK)
			picks(t, l, hi-lo-1, hi-1, api.OK)
			picks(t, l, hi-lo, 0, api.ErrNone)
		}
	}
	toldByPlaces(t, all())
	if Count(all()) != most || Count([]api.Span{{Lo: most - 1, Hi: most}}) != 1 {
		t.Error(Count(all()))
	}
}

func TestSpansThatMayNotBe(t *testing.T) {
	for _, l := range [][]api.Span{
		// A Lo below 0.
		{{Lo: -1, Hi: 2}}, {{Lo: -1, Hi: 0}}, {{Lo: -5, Hi: -2}}, {{Lo: -5, Hi: most}}, {{Lo: math.MinInt, Hi: 2}}, {{Lo: math.MinInt, Hi: math.MaxInt}}, {{Lo: math.MinInt, Hi: math.MinInt + 1}},
		// A Lo that is its Hi, or above it.
		{{}}, {{Lo: 2, Hi: 2}}, {{Lo: most, Hi: most}}, {{Lo: math.MinInt, Hi: math.MinInt}}, {{Lo: math.MaxInt, Hi: math.MaxInt}}, {{Lo: 3, Hi: 2}}, {{Lo: most - 1, Hi: 0}}, {{Lo: 2, Hi: -1}}, {{Lo: 2, Hi: math.MinInt}}, {{Lo: math.MaxInt, Hi: 2}}, {{Lo: math.MaxInt, Hi: math.MinInt}},
		// A Hi above 2^16.
		{{Lo: 0, Hi: most + 1}}, {{Lo: most - 1, Hi: most + 1}}, {{Lo: most, Hi: most + 1}}, {{Lo: 0, Hi: 1 << 32}}, {{Lo: 0, Hi: 1<<32 + 1}}, {{Lo: 1 << 32, Hi: 1<<32 + 1}}, {{Lo: 0, Hi: math.MaxInt}}, {{Lo: math.MaxInt - 1, Hi: math.MaxInt}},
		// A Lo that is not above the Hi ahead.
		{{Lo: 0, Hi: 2}, {Lo: 2, Hi: 3}}, {{Lo: 0, Hi: 2}, {Lo: 1, Hi: 3}}, {{Lo: 0, Hi: 2}, {Lo: 0, Hi: 2}}, {{Lo: 0, Hi: 5}, {Lo: 2, Hi: 3}}, {{Lo: 5, Hi: 6}, {Lo: 0, Hi: 1}}, {{Lo: 0, Hi: most}, {Lo: 0, Hi: most}},
		// A later one that may not be.
		{{Lo: 0, Hi: 1}, {Lo: 4, Hi: 5}, {Lo: 2, Hi: 3}}, {{Lo: 0, Hi: 1}, {Lo: 2, Hi: 3}, {Lo: 3, Hi: 4}}, {{Lo: 0, Hi: 1}, {Lo: 2, Hi: 3}, {Lo: 5, Hi: 5}}, {{Lo: 0, Hi: 1}, {Lo: 2, Hi: 3}, {}}, {{Lo: 0, Hi: 1}, {Lo: 2, Hi: 3}, {Lo: most - 1, Hi: most + 1}}, {{Lo: 0, Hi: 1}, {Lo: 2, Hi: 3}, {Lo: -1, Hi: 9}}, {{Lo: 0, Hi: 1}, {Lo: math.MinInt, Hi: 5}}, {{Lo: 0, Hi: most}, {Lo: most, Hi: most}}, {{Lo: 0, Hi: most}, {Lo: most + 1, Hi: most + 2}},
		// An earlier one that may not be.
		{{Lo: -1, Hi: 1}, {Lo: 2, Hi: 3}, {Lo: 4, Hi: 9}}, {{Lo: 1, Hi: 1}, {Lo: 2, Hi: 3}, {Lo: 4, Hi: 9}}, {{Lo: 0, Hi: math.MaxInt}, {Lo: math.MinInt, Hi: 5}}, {{Lo: 0, Hi: 1}, {Lo: 3, Hi: 2}, {Lo: 4, Hi: 9}},
	} {
		if maySpans(l) {
			t.Errorf("%v may be", l)
		}
		refused(t, l)
	}
}

// A Lo that is the Hi of the one ahead, one below it and one above it.
func TestLoBesideTheHiAhead(t *testing.T) {
	for _, hi := range []int{2, 3, 64, 1000, most - 3} {
		for _, first := range [][]api.Span{{{Lo: 0, Hi: hi}}, {{Lo: hi - 1, Hi: hi}}} {
			refused(t, with(first, api.Span{Lo: hi - 1, Hi: hi + 2}))
			refused(t, with(first, api.Span{Lo: hi, Hi: hi + 2}))
			refused(t, with(first, api.Span{Lo: hi, Hi: most}))
			told(t, with(first, api.Span{Lo: hi + 1, Hi: hi + 2}))
			told(t, with(first, api.Span{Lo: hi + 1, Hi: most}))
			told(t, with(first, api.Span{Lo: hi + 2, Hi: most}))
			refused(t, with(first, api.Span{Lo: hi + 1, Hi: most + 1}))
		}
	}
}

// anySpans fails if some list of up to so many spans, whose Lo and Hi are some numbers, is not told as it is; it tells how many may be.
func anySpans(t *testing.T, numbers []int, longest int) int {
	t.Helper()
	var each []api.Span
	for _, lo := range numbers {
		for _, hi := range numbers {
			each = append(each, api.Span{Lo: lo, Hi: hi})
		}
	}
	may := 0
	lists := [][]api.Span{nil}
	for k := 0; k < len(lists) && !t.Failed(); k++ {
		if asMeant(t, lists[k]) {
			may++
		}
		if len(lists[k]) < longest {
			for _, one := range each {
				lists = append(lists, with(lists[k], one))
			}
		}
	}
	return may
}

func TestAnySpans(t *testing.T) {
	// Of n numbers that may be, k spans that may be are 2k of them.
	if may := anySpans(t, []int{math.MinInt, -1, 0, 1, 2, 3, 4, 300, most, most + 1, math.MaxInt}, 2); may != 1+21+35 {
		t.Errorf("%d may be", may)
	}
	if may := anySpans(t, []int{-1, 0, 1, 2, 3, 4, 5}, 3); may != 1+15+15+1 {
		t.Errorf("%d may be", may)
	}
}

// One fault in spans that may be: in the first, in the last, and in each between.
func TestOneFault(t *testing.T) {
	s := stir(1)
	for _, count := range []int{1, 2, 3, 4, 9, 60} {
		l := s.spans(count, 6, 6)
		told(t, l)
		for k, one := range l {
			for _, wrong := range []api.Span{{Lo: one.Hi, Hi: one.Hi}, {Lo: one.Hi, Hi: one.Lo}, {Lo: -1, Hi: one.Hi}, {Lo: math.MinInt, Hi: one.Hi}, {Lo: one.Lo, Hi: one.Lo}, {Lo: one.Lo, Hi: most + 1}, {Lo: one.Lo, Hi: math.MaxInt}, {}} {
				changed := slices.Clone(l)
				changed[k] = wrong
				refused(t, changed)
			}
			for _, other := range []api.Span{{Lo: one.Lo - 1, Hi: one.Hi}, {Lo: one.Lo + 1, Hi: one.Hi}, {Lo: one.Lo, Hi: one.Hi - 1}, {Lo: one.Lo, Hi: one.Hi + 1}, {Lo: one.Lo, Hi: most}, {Lo: 0, Hi: one.Hi}, l[0], l[count-1]} {
				changed := slices.Clone(l)
				changed[k] = other
				asMeant(t, changed)
			}
			refused(t, slices.Insert(slices.Clone(l), k, one))
			told(t, slices.Delete(slices.Clone(l), k, k+1))
		}
		if count > 1 {
			slices.Reverse(l)
			refused(t, l)
		}
	}
}

func TestOfPlaces(t *testing.T) {
	for _, at := range []int{0, 1, 2, 63, 64, 255, 256, most / 2, most - 2, most - 1} {
		isOf(t, []int{at}, []api.Span{{Lo: at, Hi: at + 1}})
		isOf(t, []int{at, at}, []api.Span{{Lo: at, Hi: at + 1}})
		isOf(t, []int{at, at, at, at}, []api.Span{{Lo: at, Hi: at + 1}})
	}
	isOf(t, []int{0, most - 1}, []api.Span{{Lo: 0, Hi: 1}, {Lo: most - 1, Hi: most}})
	isOf(t, []int{most - 1, 0}, []api.Span{{Lo: 0, Hi: 1}, {Lo: most - 1, Hi: most}})
	isOf(t, []int{2, 3, 4, 5}, []api.Span{{Lo: 2, Hi: 6}})
	isOf(t, []int{5, 4, 3, 2}, []api.Span{{Lo: 2, Hi: 6}})
	isOf(t, []int{9, 7, 6, 2, 1, 0}, []api.Span{{Lo: 0, Hi: 3}, {Lo: 6, Hi: 8}, {Lo: 9, Hi: 10}})
	isOf(t, []int{4, 5, 4, 5, 7, 4, 7, 5}, []api.Span{{Lo: 4, Hi: 6}, {Lo: 7, Hi: 8}})
	isOf(t, []int{2, 4, 3}, []api.Span{{Lo: 2, Hi: 5}})
	isOf(t, []int{2, 4, 6, 4}, []api.Span{{Lo: 2, Hi: 3}, {Lo: 4, Hi: 5}, {Lo: 6, Hi: 7}})
}

// All lists of up to five places of five.
func TestOfAllOrders(t *testing.T) {
	for word := range 5 * 5 * 5 * 5 * 5 {
		l := []int{word % 5, word / 5 % 5, word / 25 % 5, word / 125 % 5, word / 625}
		for count := range len(l) + 1 {
			s := make(set, 5)
			for _, at := range l[:count] {
				s[at] = true
			}
			isOf(t, l[:count], s.spans())
		}
	}
}

func TestOfManyPlaces(t *testing.T) {
	each := make([]int, most)
	for at := range each {
		each[at] = at
	}
	isOf(t, each, all())
	slices.Reverse(each)
	isOf(t, each, all())
	isOf(t, slices.Concat(each, each, each), all())
	isOf(t, each[1:], []api.Span{{Lo: 0, Hi: most - 1}})
	isOf(t, each[:most-1], []api.Span{{Lo: 1, Hi: most}})
	for from := range 2 {
		var some []int
		for at := from; at < most; at += 2 {
			some = append(some, at)
		}
		isOf(t, some, everyOther(from))
		isOf(t, slices.Concat(some, some), everyOther(from))
	}
	isOf(t, make([]int, 1<<20), []api.Span{{Lo: 0, Hi: 1}})
}

// Places in any order, each so often.
func TestOfAnyPlaces(t *testing.T) {
	s := stir(2)
	for k := range 600 {
		l := make([]int, s.below(30))
		width := []int{3, 8, 20, 60, 1000, most}[k%6]
		from := s.below(most - width + 1)
		for k := range l {
			l[k] = from + s.below(width)
		}
		isOf(t, l, placed(l).spans())
	}
	for range 3 {
		l := make([]int, 3*most)
		for k := range l {
			l[k] = s.below(most)
		}
		isOf(t, l, placed(l).spans())
	}
}

func TestOfWhatIsNoPlace(t *testing.T) {
	for _, wrong := range noPlaces {
		ofNone(t, []int{wrong})
		ofNone(t, []int{wrong, wrong})
		for _, l := range [][]int{{0, 1, 2}, {7}, {9, 3, 3, 0}, {most - 1, 0}} {
			for k := range len(l) + 1 {
				ofNone(t, slices.Insert(slices.Clone(l), k, wrong))
			}
		}
	}
	long := make([]int, 3*most)
	for k := range long {
		long[k] = k % most
	}
	isOf(t, long, all())
	for _, k := range []int{0, 1, most, 3*most - 1} {
		for _, wrong := range noPlaces {
			was := long[k]
			long[k] = wrong
			ofNone(t, long)
			long[k] = was
		}
	}
}

// All sets of few places, at the beginning of all, in the midst and at their end.
func TestFewPlaces(t *testing.T) {
	for _, from := range []int{0, 1, 62, 1000, most - 9, most - 8} {
		for word := range 1 << 8 {
			l := bitsOf(word, from)
			told(t, l)
			toldByPlaces(t, l)
		}
	}
}

func TestManySpans(t *testing.T) {
	s := stir(3)
	for _, l := range [][]api.Span{s.spans(500, 1, 1), s.spans(500, 3, 9), s.spans(300, 9, 3), s.spans(40, 90, 20)} {
		told(t, l)
		toldByPlaces(t, l)
	}
	for from := range 2 {
		l := everyOther(from)
		told(t, l)
		for _, k := range []int{0, 1, 2, 1000, most/2 - 1} {
			picks(t, l, k, 2*k+from, api.OK)
			placeIs(t, l, 2*k+from-1, false, k)
			placeIs(t, l, 2*k+from, true, k)
			placeIs(t, l, 2*k+from+1, false, k+1)
		}
		picks(t, l, most/2, 0, api.ErrNone)
		refused(t, with(l, api.Span{Lo: most - 1, Hi: most}))
		refused(t, with(l, api.Span{Lo: most + 1, Hi: most + 2}))
	}
}

// Sp2

func TestTogether(t *testing.T) {
	a, b := []api.Span{{Lo: 0, Hi: 3}, {Lo: 5, Hi: 9}}, []api.Span{{Lo: 2, Hi: 6}, {Lo: 9, Hi: 10}}
	together(t, a, b, []api.Span{{Lo: 2, Hi: 3}, {Lo: 5, Hi: 6}}, []api.Span{{Lo: 0, Hi: 10}}, []api.Span{{Lo: 0, Hi: 2}, {Lo: 6, Hi: 9}})
	together(t, b, a, []api.Span{{Lo: 2, Hi: 3}, {Lo: 5, Hi: 6}}, []api.Span{{Lo: 0, Hi: 10}}, []api.Span{{Lo: 3, Hi: 5}, {Lo: 9, Hi: 10}})
	for _, none := range [][]api.Span{nil, {}} {
		together(t, a, none, nil, a, a)
		together(t, none, a, nil, a, nil)
		together(t, all(), none, nil, all(), all())
		together(t, none, all(), nil, all(), nil)
		together(t, none, nil, nil, nil, nil)
		together(t, none, []api.Span{}, nil, nil, nil)
	}
	together(t, a, a, a, a, nil)
	together(t, a, slices.Clone(a), a, a, nil)
	together(t, all(), all(), all(), all(), nil)
	together(t, all(), a, a, all(), []api.Span{{Lo: 3, Hi: 5}, {Lo: 9, Hi: most}})
	together(t, a, all(), a, all(), nil)
}

func TestHowTwoLie(t *testing.T) {
	one := []api.Span{{Lo: 10, Hi: 20}}
	for _, c := range []struct{ other, and, or, less []api.Span }{
		// They touch.
		{[]api.Span{{Lo: 20, Hi: 25}}, nil, []api.Span{{Lo: 10, Hi: 25}}, one},
		{[]api.Span{{Lo: 5, Hi: 10}}, nil, []api.Span{{Lo: 5, Hi: 20}}, one},
		{[]api.Span{{Lo: 5, Hi: 10}, {Lo: 20, Hi: 25}}, nil, []api.Span{{Lo: 5, Hi: 25}}, one},
		// They overlap at one end.
		{[]api.Span{{Lo: 19, Hi: 25}}, []api.Span{{Lo: 19, Hi: 20}}, []api.Span{{Lo: 10, Hi: 25}}, []api.Span{{Lo: 10, Hi: 19}}},
		{[]api.Span{{Lo: 5, Hi: 11}}, []api.Span{{Lo: 10, Hi: 11}}, []api.Span{{Lo: 5, Hi: 20}}, []api.Span{{Lo: 11, Hi: 20}}},
		// One lies within the other, at an end of it or not.
		{[]api.Span{{Lo: 12, Hi: 15}}, []api.Span{{Lo: 12, Hi: 15}}, one, []api.Span{{Lo: 10, Hi: 12}, {Lo: 15, Hi: 20}}},
		{[]api.Span{{Lo: 10, Hi: 15}}, []api.Span{{Lo: 10, Hi: 15}}, one, []api.Span{{Lo: 15, Hi: 20}}},
		{[]api.Span{{Lo: 12, Hi: 20}}, []api.Span{{Lo: 12, Hi: 20}}, one, []api.Span{{Lo: 10, Hi: 12}}},
		{[]api.Span{{Lo: 9, Hi: 21}}, one, []api.Span{{Lo: 9, Hi: 21}}, nil},
		{[]api.Span{{Lo: 10, Hi: 21}}, one, []api.Span{{Lo: 10, Hi: 21}}, nil},
		{[]api.Span{{Lo: 9, Hi: 20}}, one, []api.Span{{Lo: 9, Hi: 20}}, nil},
		// They lie apart.
		{[]api.Span{{Lo: 21, Hi: 25}}, nil, []api.Span{{Lo: 10, Hi: 20}, {Lo: 21, Hi: 25}}, one},
		{[]api.Span{{Lo: 5, Hi: 9}}, nil, []api.Span{{Lo: 5, Hi: 9}, {Lo: 10, Hi: 20}}, one},
		{[]api.Span{{Lo: 0, Hi: 1}, {Lo: most - 1, Hi: most}}, nil, []api.Span{{Lo: 0, Hi: 1}, {Lo: 10, Hi: 20}, {Lo: most - 1, Hi: most}}, one},
		// One spans many of the other.
		{[]api.Span{{Lo: 9, Hi: 11}, {Lo: 12, Hi: 13}, {Lo: 14, Hi: 17}, {Lo: 19, Hi: 22}}, []api.Span{{Lo: 10, Hi: 11}, {Lo: 12, Hi: 13}, {Lo: 14, Hi: 17}, {Lo: 19, Hi: 20}}, []api.Span{{Lo: 9, Hi: 22}}, []api.Span{{Lo: 11, Hi: 12}, {Lo: 13, Hi: 14}, {Lo: 17, Hi: 19}}},
		{[]api.Span{{Lo: 10, Hi: 11}, {Lo: 12, Hi: 13}, {Lo: 19, Hi: 20}}, []api.Span{{Lo: 10, Hi: 11}, {Lo: 12, Hi: 13}, {Lo: 19, Hi: 20}}, one, []api.Span{{Lo: 11, Hi: 12}, {Lo: 13, Hi: 19}}},
	} {
		together(t, one, c.other, c.and, c.or, c.less)
		togetherAsMeant(t, one, c.other)
	}
}

// One or both of two may not be, whatever the other one is, and also where it does not count (none, or places far ahead).
func TestTogetherOfWhatMayNotBe(t *testing.T) {
	may := [][]api.Span{nil, {{Lo: 0, Hi: 1}}, {{Lo: 0, Hi: 3}, {Lo: 5, Hi: 9}}, {{Lo: 40000, Hi: 40001}}, everyOther(0), all()}
	mayNot := [][]api.Span{{{}}, {{Lo: -1, Hi: 2}}, {{Lo: 2, Hi: 2}}, {{Lo: 3, Hi: 2}}, {{Lo: 0, Hi: most + 1}}, {{Lo: 0, Hi: 2}, {Lo: 2, Hi: 3}}, {{Lo: 5, Hi: 6}, {Lo: 0, Hi: 1}}, {{Lo: 50000, Hi: 50001}, {Lo: 50001, Hi: 50002}}, with(everyOther(0), api.Span{Lo: most, Hi: most})}
	for _, a := range mayNot {
		for _, b := range may {
			goNot(t, a, b)
			goNot(t, b, a)
		}
		for _, b := range mayNot {
			goNot(t, a, b)
		}
	}
}

// All pairs of sets of few places, at the beginning of all, in the midst and at their end, held against their places one by one.
func TestAllPairs(t *testing.T) {
	for _, from := range []int{0, 1, 1000, most - 6} {
		for a := range 1 << 6 {
			for b := range 1 << 6 {
				together(t, bitsOf(a, from), bitsOf(b, from), bitsOf(a&b, from), bitsOf(a|b, from), bitsOf(a&^b, from))
			}
		}
	}
	for a := range 1 << 6 {
		for b := range 1 << 6 {
			togetherAsMeant(t, bitsOf(a, 0), bitsOf(b, 0))
		}
	}
}

func TestAnyPairs(t *testing.T) {
	s := stir(4)
	some := func() []api.Span { return s.spans(s.below(12), 1+s.below(30), 1+s.below(30)) }
	for range 3000 {
		togetherAsMeant(t, some(), some())
	}
	for range 10 {
		togetherAsMeant(t, s.spans(most, 1+s.below(90), 1+s.below(90)), s.spans(most, 1+s.below(9), 1+s.below(900)))
	}
}

func TestPairsOfManySpans(t *testing.T) {
	even, odd := everyOther(0), everyOther(1)
	together(t, even, odd, nil, all(), even)
	together(t, odd, even, nil, all(), odd)
	together(t, even, even, even, even, nil)
	together(t, all(), even, even, all(), odd)
	together(t, even, all(), even, all(), nil)
	together(t, all(), odd, odd, all(), even)
	together(t, even, nil, nil, even, even)
	togetherAsMeant(t, even, stir(5).spans(most, 9, 9))
}

// Sp3

// A set of places has one kind of spans: two that may be, and are not the same, have not the same places, and spans go back by their places.
func TestOneKindOfSpans(t *testing.T) {
	s := stir(6)
	for k := range 2000 {
		a := s.spans(s.below(4), 1+s.below(3), 1+s.below(2))
		b := s.spans(s.below(4), 1+s.below(3), 1+s.below(2))
		if k%50 == 0 {
			a = s.spans(most, 1+s.below(30), 1+s.below(30))
		}
		ofA, noA := Places(a)
		ofB, noB := Places(b)
		if noA != api.OK || noB != api.OK || slices.Equal(a, b) != slices.Equal(ofA, ofB) {
			t.Fatalf("Places of %v..: %d.., %d; of %v: %d, %d", short(a), short(ofA), noA, b, ofB, noB)
		}
		isOf(t, ofA, a)
		slices.Reverse(ofA)
		isOf(t, slices.Concat(ofA, ofA), a)
	}
}

// must are the spans that a call answers of two that may be.
func must(t *testing.T, call func(a, b []api.Span) ([]api.Span, api.Errno), a, b []api.Span) []api.Span {
	t.Helper()
	l, errno := call(a, b)
	if errno != api.OK || !May(l) {
		t.Fatalf("of %v.. and %v..: %v.., %d", short(a), short(b), short(l), errno)
	}
	return l
}

// goTogether fails if three do not go together as sets do.
func goTogether(t *testing.T, a, b, c []api.Span) {
	t.Helper()
	and := func(a, b []api.Span) []api.Span { return must(t, And, a, b) }
	or := func(a, b []api.Span) []api.Span { return must(t, Or, a, b) }
	less := func(a, b []api.Span) []api.Span { return must(t, Less, a, b) }
	for law, sides := range map[string][2][]api.Span{
		"both orders of And":              {and(a, b), and(b, a)},
		"both orders of Or":               {or(a, b), or(b, a)},
		"And of three":                    {and(and(a, b), c), and(a, and(b, c))},
		"Or of three":                     {or(or(a, b), c), or(a, or(b, c))},
		"And of Or":                       {and(a, or(b, c)), or(and(a, b), and(a, c))},
		"Or of And":                       {or(a, and(b, c)), and(or(a, b), or(a, c))},
		"Less of Or":                      {less(a, or(b, c)), and(less(a, b), less(a, c))},
		"Less of And":                     {less(a, and(b, c)), or(less(a, b), less(a, c))},
		"And and Less together":           {or(and(a, b), less(a, b)), a},
		"And and Less have none together": {and(and(a, b), less(a, b)), nil},
		"Less and the second":             {or(less(a, b), b), or(a, b)},
		"Less by Less":                    {less(a, less(a, b)), and(a, b)},
		"Less by all":                     {and(a, less(all(), b)), less(a, b)},
		"twice by all":                    {less(all(), less(all(), a)), a},
		"And of the same":                 {and(a, a), a},
		"Or of the same":                  {or(a, a), a},
		"Less of the same":                {less(a, a), nil},
		"within":                          {and(a, or(a, b)), a},
	} {
		if !slices.Equal(sides[0], sides[1]) {
			t.Errorf("%s, of %v.., %v.. and %v..: %v.. and %v..", law, short(a), short(b), short(c), short(sides[0]), short(sides[1]))
		}
	}
	if Count(a)+Count(b) != Count(and(a, b))+Count(or(a, b)) || Count(a) != Count(and(a, b))+Count(less(a, b)) || Count(or(a, b)) != Count(and(a, b))+Count(less(a, b))+Count(less(b, a)) {
		t.Errorf("counts of %v.. and %v..: %d, %d; %d, %d, %d", short(a), short(b), Count(a), Count(b), Count(and(a, b)), Count(or(a, b)), Count(less(a, b)))
	}
}

func TestGoTogetherAsSets(t *testing.T) {
	for a := range 1 << 4 {
		for b := range 1 << 4 {
			for c := range 1 << 4 {
				goTogether(t, bitsOf(a, 0), bitsOf(b, 0), bitsOf(c, 0))
				goTogether(t, bitsOf(a, most-4), bitsOf(b, most-4), bitsOf(c, most-4))
			}
		}
	}
	s := stir(7)
	some := func() []api.Span { return s.spans(s.below(most), 1+s.below(2000), 1+s.below(2000)) }
	for range 100 {
		goTogether(t, some(), some(), some())
	}
	goTogether(t, everyOther(0), everyOther(1), all())
}

// Has and Rank go together with And, Or and Less, and Pick back by Rank.
func TestPlacesGoTogether(t *testing.T) {
	s := stir(8)
	for range 200 {
		a, b := s.spans(s.below(9), 1+s.below(9), 1+s.below(9)), s.spans(s.below(9), 1+s.below(9), 1+s.below(9))
		and, or, less := must(t, And, a, b), must(t, Or, a, b), must(t, Less, a, b)
		for at := -2; at < 200; at++ {
			if Has(and, at) != (Has(a, at) && Has(b, at)) || Has(or, at) != (Has(a, at) || Has(b, at)) || Has(less, at) != (Has(a, at) && !Has(b, at)) {
				t.Fatalf("Has(.., %d), of %v and %v", at, a, b)
			}
			if Rank(a, at)+Rank(b, at) != Rank(and, at)+Rank(or, at) || Rank(a, at) != Rank(and, at)+Rank(less, at) {
				t.Fatalf("Rank(.., %d), of %v and %v", at, a, b)
			}
		}
		for k := range Count(or) {
			at, errno := Pick(or, k)
			if errno != api.OK || !Has(or, at) || Rank(or, at) != k || Rank(or, at+1) != k+1 {
				t.Fatalf("Pick(%v, %d): %d, %d", or, k, at, errno)
			}
		}
	}
}

// R1 to R4

// What is handed in stays as it is, and what lies behind its end is neither read nor written.
func TestRulesOfArguments(t *testing.T) {
	a := []api.Span{{Lo: 0, Hi: 3}, {Lo: 5, Hi: 9}, {Lo: 9, Hi: 1}, {Lo: 20, Hi: 30}}
	b := []api.Span{{Lo: 2, Hi: 6}, {Lo: 9, Hi: 10}, {Lo: -1, Hi: math.MaxInt}}
	places := []int{9, 3, 4, 3, -1, 7}
	wasA, wasB, wasPlaces := slices.Clone(a), slices.Clone(b), slices.Clone(places)
	asMeant(t, a)
	asMeant(t, b)
	goNot(t, a, b)
	told(t, a[:2])
	told(t, a[:1])
	told(t, a[:0])
	toldByPlaces(t, a[:2])
	told(t, a[1:2])
	told(t, a[3:])
	together(t, a[:2], b[:2], []api.Span{{Lo: 2, Hi: 3}, {Lo: 5, Hi: 6}}, []api.Span{{Lo: 0, Hi: 10}}, []api.Span{{Lo: 0, Hi: 2}, {Lo: 6, Hi: 9}})
	together(t, a[:2], a[:0], nil, a[:2], a[:2])
	together(t, a[:0], b[:2], nil, b[:2], nil)
	together(t, a[:2], a[:2], a[:2], a[:2], nil)
	together(t, a[:1], a[1:2], nil, a[:2], a[:1])
	ofNone(t, places)
	isOf(t, places[:4], []api.Span{{Lo: 3, Hi: 5}, {Lo: 9, Hi: 10}})
	isOf(t, places[5:], []api.Span{{Lo: 7, Hi: 8}})
	isOf(t, places[:0], nil)
	if !slices.Equal(a, wasA) || !slices.Equal(b, wasB) || !slices.Equal(places, wasPlaces) {
		t.Errorf("what was handed in became %v, %v, %d", a, b, places)
	}
}

// What is answered is new memory, also where it is the same as what was handed in.
func TestRulesOfAnswers(t *testing.T) {
	a, want := []api.Span{{Lo: 3, Hi: 5}, {Lo: 7, Hi: 8}}, []api.Span{{Lo: 3, Hi: 5}, {Lo: 7, Hi: 8}}
	room := slices.Grow(slices.Clone(a), 8) // with room behind its end, that an answer must not take
	behind := room[:4]
	behind[2], behind[3] = api.Span{Lo: 1}, api.Span{Lo: 2}
	for _, l := range [][]api.Span{a, room} {
		var answers [][]api.Span
		for range 2 {
			answers = append(answers, must(t, And, l, l), must(t, And, l, all()), must(t, And, all(), l), must(t, Or, l, l), must(t, Or, l, nil), must(t, Or, nil, l), must(t, Or, l, l[:0]), must(t, Less, l, nil), must(t, Less, l, l[:0]), must(t, Less, l, []api.Span{{Lo: 50, Hi: 60}}))
			made, _ := Of([]int{3, 4, 7})
			answers = append(answers, made)
		}
		for k, one := range answers {
			if !slices.Equal(one, want) {
				t.Errorf("answer %d: %v", k, one)
			}
			_ = append(one, api.Span{Lo: 9}, api.Span{Lo: 9})
			clear(one[:cap(one)])
		}
		if !slices.Equal(l, want) || behind[2] != (api.Span{Lo: 1}) || behind[3] != (api.Span{Lo: 2}) {
			t.Errorf("what was handed in became %v, %v", l, behind)
		}
	}
	first, _ := Places(a)
	again, _ := Places(a)
	clear(first[:cap(first)])
	if !slices.Equal(again, []int{3, 4, 7}) {
		t.Errorf("two answers share memory: %d", again)
	}
}

// Of's answer is not made in the list that was handed in, and this one is not put in order.
func TestOfLeavesItsList(t *testing.T) {
	l := []int{9, 3, 3, 4, 0, 9}
	for range 2 {
		isOf(t, l, []api.Span{{Lo: 0, Hi: 1}, {Lo: 3, Hi: 5}, {Lo: 9, Hi: 10}})
		if !slices.Equal(l, []int{9, 3, 3, 4, 0, 9}) {
			t.Errorf("the places became %d", l)
		}
	}
}

// No call panics, whatever it is given, and the same is answered again.
func TestAnyArguments(t *testing.T) {
	s := stir(9)
	parts := slices.Concat(noPlaces, []int{0, 0, 0, 1, 1, 2, 2, 3, 4, 5, 6, 7, 8, 9, most - 1, most, most})
	part := func() int { return parts[s.below(len(parts))] }
	some := func() []api.Span {
		if s.below(3) == 0 {
			return s.spans(s.below(4), 3, 3)
		}
		l := make([]api.Span, s.below(4))
		for k := range l {
			l[k] = api.Span{Lo: part(), Hi: part()}
		}
		return l
	}
	for range 20000 {
		a, b, at := some(), some(), part()
		mayA, mayB := maySpans(a), maySpans(b)
		if May(a) != mayA || !mayA && Count(a) != 0 || Has(a, at) != (mayA && isIn(a, at)) {
			t.Fatalf("of %v: %t, %d; at %d: %t", a, May(a), Count(a), at, Has(a, at))
		}
		if mayA && mayB {
			togetherAsMeant(t, a, b)
		} else {
			goNot(t, a, b)
		}
		picked, noPicked := Pick(a, at)
		if again, errno := Pick(a, at); again != picked || errno != noPicked || noPicked != api.OK && picked != 0 || (noPicked == api.ErrArg) == mayA {
			t.Fatalf("Pick(%v, %d): %d, %d, then %d, %d", a, at, picked, noPicked, again, errno)
		}
		if Rank(a, at) != Rank(a, at) || Rank(a, at) < 0 || Rank(a, at) > Count(a) {
			t.Fatalf("Rank(%v, %d): %d", a, at, Rank(a, at))
		}
	}
}

// Long lists end, and are refused where they may not be.
func TestLongLists(t *testing.T) {
	long := make([]api.Span, 1<<22)
	for k := range long {
		long[k] = api.Span{Lo: 2 * k, Hi: 2*k + 1}
	}
	refused(t, long)
	told(t, long[:most/2])
	refused(t, long[:most/2+1])
	places := make([]int, 1<<22)
	for k := range places {
		places[k] = k * 7 % most
	}
	isOf(t, places, all())
	places[len(places)-1] = most
	ofNone(t, places)
}
