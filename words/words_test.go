package words

import (
	"math"
	"peristyle/api"
	"peristyle/span"
	"slices"
	"testing"
)

// bitsOf are the words of the bits of a number that are set, the lowest of them a place that is told.
func bitsOf(number, first int) []int {
	var places []int
	for b := range 20 {
		if number>>b%2 == 1 {
			places = append(places, first+b)
		}
	}
	return wordsOf(places)
}

// firsts are places from which on a few lie at the beginning of all, within a word, around a word's border and at the end of all.
func firsts(few int) []int {
	return []int{0, 1, 30, 64 - few, 65 - few, 64 - few/2, 63, 64, 128 - few/2, 1024 - few/2, most - 64 - few/2, most - few}
}

// Wo1

// Places 0, 1 and 64.
func TestExample(t *testing.T) {
	l := []int{3, 1}
	isOf(t, []api.Span{{Lo: 0, Hi: 2}, {Lo: 64, Hi: 65}}, l)
	hasSpans(t, l, []api.Span{{Lo: 0, Hi: 2}, {Lo: 64, Hi: 65}})
	told(t, l)
	toldByPlaces(t, l)
	if !May(l) || Count(l) != 3 {
		t.Error(May(l), Count(l))
	}
	placeIs(t, l, -1, false, 0)
	placeIs(t, l, 0, true, 0)
	placeIs(t, l, 1, true, 1)
	placeIs(t, l, 2, false, 2)
	placeIs(t, l, 63, false, 2)
	placeIs(t, l, 64, true, 2)
	placeIs(t, l, 65, false, 3)
	picks(t, l, -1, 0, api.ErrNone)
	picks(t, l, 0, 0, api.OK)
	picks(t, l, 1, 1, api.OK)
	picks(t, l, 2, 64, api.OK)
	picks(t, l, 3, 0, api.ErrNone)
}

func TestNoWords(t *testing.T) {
	for _, l := range [][]int{nil, {}} {
		told(t, l)
		toldByPlaces(t, l)
		for _, k := range slices.Concat(noPlaces, []int{0, 1, 63, 64, 65, most - 1}) {
			placeIs(t, l, k, false, 0)
			picks(t, l, k, 0, api.ErrNone)
		}
	}
	isOf(t, nil, nil)
	isOf(t, []api.Span{}, nil)
}

func TestOneWord(t *testing.T) {
	for b := range 64 {
		l := []int{1 << b}
		told(t, l)
		toldByPlaces(t, l)
		hasSpans(t, l, []api.Span{{Lo: b, Hi: b + 1}})
		picks(t, l, 0, b, api.OK)
		picks(t, l, 1, 0, api.ErrNone)
	}
	if Count([]int{top}) != 1 || !Has([]int{top}, 63) || Count([]int{-1}) != 64 || Count([]int{math.MaxInt}) != 63 {
		t.Error("the top bit")
	}
	hasSpans(t, []int{top}, []api.Span{{Lo: 63, Hi: 64}})
	hasSpans(t, []int{-1}, []api.Span{{Lo: 0, Hi: 64}})
	hasSpans(t, []int{-2}, []api.Span{{Lo: 1, Hi: 64}})
	for _, l := range [][]int{{-1}, {-2}, {top + 1}, {math.MaxInt}, {math.MaxInt - 1}, {0x5555555555555555}, {-0x5555555555555556}, {0xf0f0}, {^0xf0f0}} {
		told(t, l)
		toldByPlaces(t, l)
	}
}

func TestNoughts(t *testing.T) {
	refused(t, []int{0})
	refused(t, []int{0, 0})
	refused(t, []int{1, 0})
	refused(t, []int{-1, 0})
	refused(t, []int{top, 0})
	refused(t, []int{0, 1, 0})
	refused(t, []int{1, 2, 3, 0, 0, 0})
	for _, l := range [][]int{{0, 1}, {0, top}, {0, -1}, {1, 0, 1}, {top, 0, 1}, {0, 0, 0, 0, 1 << 8}, {-1, 0, 0, -1}} {
		told(t, l)
		toldByPlaces(t, l)
	}
}

func TestManyWords(t *testing.T) {
	last := make([]int, mostLong)
	last[mostLong-1] = top
	for _, l := range [][]int{all(), last, slices.Repeat([]int{0x5555555555555555}, mostLong), slices.Repeat([]int{top}, mostLong), append(make([]int, mostLong-1), 1)} {
		told(t, l)
		told(t, cut(slices.Clone(l[:mostLong-1])))
		refused(t, append(slices.Clone(l), 1))
		refused(t, append(slices.Clone(l), top))
		refused(t, append(slices.Clone(l), 0))
		refused(t, slices.Concat(l, l))
	}
	refused(t, make([]int, mostLong-1))
	refused(t, make([]int, mostLong))
	refused(t, make([]int, mostLong+1))
	if Count(all()) != most || Count(last) != 1 {
		t.Error(Count(all()), Count(last))
	}
	placeIs(t, last, most-2, false, 0)
	placeIs(t, last, most-1, true, 0)
	placeIs(t, last, most, false, 1)
	picks(t, last, 0, most-1, api.OK)
	for _, at := range []int{0, 63, 64, 65, 1000, most - 65, most - 64, most - 1} {
		placeIs(t, all(), at, true, at)
		picks(t, all(), at, at, api.OK)
	}
}

// All lists of up to four words of some.
func TestAnyWords(t *testing.T) {
	lists := [][]int{nil}
	may := 0
	for k := 0; k < len(lists) && !t.Failed(); k++ {
		if asMeant(t, lists[k]) {
			may++
		}
		if len(lists[k]) < 4 {
			for _, word := range []int{0, 1, -1, top, top + 1, 6} {
				lists = append(lists, slices.Concat(lists[k], []int{word}))
			}
		}
	}
	if may != 1+5+6*5+6*6*5+6*6*6*5 {
		t.Errorf("%d may be", may)
	}
}

func TestOfOnePlace(t *testing.T) {
	for _, at := range []int{0, 1, 2, 31, 32, 62, 63, 64, 65, 127, 128, 129, 1023, 1024, most - 65, most - 64, most - 2, most - 1} {
		l, errno := Of([]api.Span{{Lo: at, Hi: at + 1}})
		if errno != api.OK || len(l) != at/64+1 || uint64(l[len(l)-1]) != 1<<(at%64) || slices.ContainsFunc(l[:len(l)-1], func(word int) bool { return word != 0 }) {
			t.Errorf("Of place %d: %#x.., %d words, %d", at, short(l), len(l), errno)
		}
		told(t, l)
	}
}

func TestOfSpans(t *testing.T) {
	for _, c := range []struct {
		l    []api.Span
		want []int
	}{
		// Within one word.
		{[]api.Span{{Lo: 1, Hi: 3}}, []int{6}},
		{[]api.Span{{Lo: 1, Hi: 3}, {Lo: 4, Hi: 6}, {Lo: 62, Hi: 63}}, []int{0x4000000000000036}},
		{[]api.Span{{Lo: 65, Hi: 127}}, []int{0, math.MaxInt - 1}},
		// They end, or begin, at a border.
		{[]api.Span{{Lo: 0, Hi: 64}}, []int{-1}},
		{[]api.Span{{Lo: 60, Hi: 64}}, []int{-1 << 60}},
		{[]api.Span{{Lo: 64, Hi: 66}}, []int{0, 3}},
		{[]api.Span{{Lo: 64, Hi: 128}}, []int{0, -1}},
		{[]api.Span{{Lo: 0, Hi: 63}, {Lo: 64, Hi: 65}}, []int{math.MaxInt, 1}},
		{[]api.Span{{Lo: 63, Hi: 64}, {Lo: 65, Hi: 66}}, []int{top, 2}},
		// Across one border, and many.
		{[]api.Span{{Lo: 63, Hi: 65}}, []int{top, 1}},
		{[]api.Span{{Lo: 1, Hi: 128}}, []int{-2, -1}},
		{[]api.Span{{Lo: 0, Hi: 65}}, []int{-1, 1}},
		{[]api.Span{{Lo: 63, Hi: 193}}, []int{top, -1, -1, 1}},
		{[]api.Span{{Lo: 2, Hi: 4}, {Lo: 62, Hi: 130}, {Lo: 133, Hi: 134}, {Lo: 383, Hi: 449}}, []int{-1<<62 + 12, -1, 35, 0, 0, top, -1, 1}},
		// All places.
		{[]api.Span{{Lo: 0, Hi: most}}, all()},
		{[]api.Span{{Lo: 0, Hi: most - 1}}, append(all()[1:], math.MaxInt)},
		{[]api.Span{{Lo: 1, Hi: most}}, append([]int{-2}, all()[1:]...)},
	} {
		isOf(t, c.l, c.want)
		hasSpans(t, c.want, c.l)
		told(t, c.want)
	}
}

// One span from each place to each, over a few borders.
func TestOfAnySpan(t *testing.T) {
	for lo := range 140 {
		for hi := lo + 1; hi <= 200; hi++ {
			isOf(t, []api.Span{{Lo: lo, Hi: hi}}, wordsOf(from(lo, hi)))
		}
	}
	for _, lo := range []int{0, 1, 63, 64, 65, 1000, most / 2, most - 65, most - 64, most - 1} {
		for _, hi := range []int{1, 64, 65, 1001, 1024, most / 2, most - 64, most - 63, most - 1, most} {
			if lo < hi {
				told(t, wordsOf(from(lo, hi)))
			}
		}
	}
}

func TestOfWhatMayNotBe(t *testing.T) {
	for _, l := range [][]api.Span{
		{{}}, {{Lo: -1, Hi: 2}}, {{Lo: -5, Hi: -2}}, {{Lo: math.MinInt, Hi: 2}}, {{Lo: math.MinInt, Hi: math.MaxInt}}, {{Lo: 2, Hi: 2}}, {{Lo: most, Hi: most}}, {{Lo: 3, Hi: 2}}, {{Lo: math.MaxInt, Hi: math.MinInt}},
		{{Lo: 0, Hi: most + 1}}, {{Lo: most, Hi: most + 1}}, {{Lo: 0, Hi: math.MaxInt}}, {{Lo: 1 << 32, Hi: 1<<32 + 1}},
		{{Lo: 0, Hi: 2}, {Lo: 2, Hi: 3}}, {{Lo: 0, Hi: 64}, {Lo: 64, Hi: 65}}, {{Lo: 0, Hi: 2}, {Lo: 1, Hi: 3}}, {{Lo: 5, Hi: 6}, {Lo: 0, Hi: 1}}, {{Lo: 0, Hi: 1}, {Lo: 2, Hi: 3}, {Lo: most - 1, Hi: most + 1}}, {{Lo: 0, Hi: 1}, {Lo: 3, Hi: 2}, {Lo: 4, Hi: 9}}, {{Lo: 0, Hi: math.MaxInt}, {Lo: 1, Hi: 5}}, {{Lo: 0, Hi: most}, {Lo: 0, Hi: most}},
	} {
		if span.May(l) {
			t.Errorf("%v may be", l)
		}
		ofNone(t, l)
	}
}

// Bits that go on from one word's top bit to the next one's lowest are one span.
func TestSpansOverBorders(t *testing.T) {
	for _, c := range []struct {
		l    []int
		want []api.Span
	}{
		{[]int{top, 1}, []api.Span{{Lo: 63, Hi: 65}}},
		{[]int{top, 2}, []api.Span{{Lo: 63, Hi: 64}, {Lo: 65, Hi: 66}}},
		{[]int{1 << 62, 1}, []api.Span{{Lo: 62, Hi: 63}, {Lo: 64, Hi: 65}}},
		{[]int{top, top}, []api.Span{{Lo: 63, Hi: 64}, {Lo: 127, Hi: 128}}},
		{[]int{top + 1, top + 1}, []api.Span{{Lo: 0, Hi: 1}, {Lo: 63, Hi: 65}, {Lo: 127, Hi: 128}}},
		{[]int{-1, -1}, []api.Span{{Lo: 0, Hi: 128}}},
		{[]int{-1, 0, -1}, []api.Span{{Lo: 0, Hi: 64}, {Lo: 128, Hi: 192}}},
		{[]int{top, 0, 1}, []api.Span{{Lo: 63, Hi: 64}, {Lo: 128, Hi: 129}}},
		{[]int{top, -1, -1, 1}, []api.Span{{Lo: 63, Hi: 193}}},
		{[]int{top, -1, math.MaxInt, 1}, []api.Span{{Lo: 63, Hi: 191}, {Lo: 192, Hi: 193}}},
		{all(), []api.Span{{Lo: 0, Hi: most}}},
	} {
		hasSpans(t, c.l, c.want)
		isOf(t, c.want, c.l)
		toldByPlaces(t, c.l[:min(len(c.l), 4)])
	}
}

// All sets of few places.
func TestFewPlaces(t *testing.T) {
	for _, first := range firsts(7) {
		for number := range 1 << 7 {
			l := bitsOf(number, first)
			told(t, l)
			if len(l) <= 3 {
				toldByPlaces(t, l)
			}
		}
	}
}

func TestStirredWords(t *testing.T) {
	s := stir(1)
	for range 400 {
		told(t, s.words(9))
	}
	for range 60 {
		toldByPlaces(t, s.words(9))
	}
	for range 10 {
		told(t, s.words(mostLong))
	}
	toldByPlaces(t, s.words(100))
}

// Has, Rank and Pick at places far apart, of every other place.
func TestEveryOtherPlace(t *testing.T) {
	l := slices.Repeat([]int{0x5555555555555555}, mostLong)
	for at := 0; at < most; at += 61 {
		placeIs(t, l, at, at%2 == 0, (at+1)/2)
	}
	for k := 0; k < most/2; k += 61 {
		picks(t, l, k, 2*k, api.OK)
	}
	picks(t, l, most/2-1, most-2, api.OK)
	picks(t, l, most/2, 0, api.ErrNone)
}

// Wo2

func TestTogether(t *testing.T) {
	a, b := []int{7, -1, 0, 12}, []int{-4, top}
	areTogether(t, a, b, []int{4, top}, []int{-1, -1, 0, 12}, []int{3, math.MaxInt, 0, 12})
	areTogether(t, b, a, []int{4, top}, []int{-1, -1, 0, 12}, []int{-8})
	for _, none := range [][]int{nil, {}} {
		areTogether(t, a, none, nil, a, a)
		areTogether(t, none, a, nil, a, nil)
		areTogether(t, all(), none, nil, all(), all())
		areTogether(t, none, all(), nil, all(), nil)
		areTogether(t, none, nil, nil, nil, nil)
		areTogether(t, none, []int{}, nil, nil, nil)
	}
	for _, l := range [][]int{a, b, {-1}, {top}, {0, 0, 1}, all()} {
		areTogether(t, l, l, l, l, nil)
		areTogether(t, l, slices.Clone(l), l, l, nil)
	}
}

// Words at the end of which all bits are gone go away.
func TestLastWordsGo(t *testing.T) {
	areTogether(t, []int{1, 1}, []int{1, 2}, []int{1}, []int{1, 3}, []int{0, 1})
	areTogether(t, []int{1, 1}, []int{2, 2}, nil, []int{3, 3}, []int{1, 1})
	areTogether(t, []int{0, 0, 1}, []int{0, 0, 3}, []int{0, 0, 1}, []int{0, 0, 3}, nil)
	areTogether(t, []int{0, 0, 3}, []int{0, 0, 1}, []int{0, 0, 1}, []int{0, 0, 3}, []int{0, 0, 2})
	areTogether(t, []int{5, 0, 3}, []int{4, 0, 3}, []int{4, 0, 3}, []int{5, 0, 3}, []int{1})
	areTogether(t, []int{1, 2, 3, 4}, []int{0, 2, 3, 4}, []int{0, 2, 3, 4}, []int{1, 2, 3, 4}, []int{1})
	areTogether(t, []int{1, 2, 3, 4}, []int{-1, -1, -1, -1}, []int{1, 2, 3, 4}, []int{-1, -1, -1, -1}, nil)
	areTogether(t, []int{1, 0, 0, 4}, []int{1, 2}, []int{1}, []int{1, 2, 0, 4}, []int{0, 0, 0, 4})
	areTogether(t, []int{1, 2}, []int{1, 0, 0, 4}, []int{1}, []int{1, 2, 0, 4}, []int{0, 2})
	areTogether(t, []int{top}, []int{0, 1}, nil, []int{top, 1}, []int{top})
	areTogether(t, all(), all()[1:], all()[1:], all(), append(make([]int, mostLong-1), -1))
	areTogether(t, all()[1:], all(), all()[1:], all(), nil)
	areTogether(t, append(slices.Repeat([]int{5}, mostLong-1), 1), append(slices.Repeat([]int{2}, mostLong-1), 2), nil, append(slices.Repeat([]int{7}, mostLong-1), 3), append(slices.Repeat([]int{5}, mostLong-1), 1))
}

// One or both of two may not be, whatever the other one is, and also where it does not count.
func TestTogetherOfWhatMayNotBe(t *testing.T) {
	may := [][]int{nil, {1}, {0, 1}, {-1, top}, append(make([]int, mostLong-1), 1), all()}
	mayNot := [][]int{{0}, {0, 0}, {1, 0}, {0, 5, 0}, make([]int, mostLong), append(all()[1:], 0), append(all(), 1), append(all(), 0), slices.Concat(all(), all())}
	for _, a := range mayNot {
		refused(t, a)
		for _, b := range may {
			goNot(t, a, b)
			goNot(t, b, a)
		}
		for _, b := range mayNot {
			goNot(t, a, b)
		}
	}
}

// ns are how many places there are, for Not.
func ns() []int {
	return []int{0, 1, 2, 62, 63, 64, 65, 66, 127, 128, 129, 191, 192, 1000, most - 65, most - 64, most - 63, most - 1, most}
}

func TestNot(t *testing.T) {
	isNot(t, []int{1}, 65, []int{-2, 1})
	isNot(t, []int{3, 1}, 0, nil)
	isNot(t, []int{3, 1}, 2, nil)
	isNot(t, []int{3, 1}, 3, []int{4})
	isNot(t, []int{3, 1}, 65, []int{-4})
	isNot(t, []int{3, 1}, 66, []int{-4, 2})
	isNot(t, []int{0, 0, 1}, 63, []int{math.MaxInt})
	isNot(t, []int{0, 0, 1}, 64, []int{-1})
	isNot(t, []int{5}, 1, nil)
	isNot(t, []int{4}, 2, []int{3}) // a place at n
	isNot(t, []int{8}, 2, []int{3}) // a place above n
	isNot(t, all(), most, nil)
	isNot(t, all()[1:], most, append(make([]int, mostLong-1), -1))
	isNot(t, append([]int{-2}, all()[1:]...), most, []int{1})
	isNot(t, append(all()[1:], math.MaxInt), most, append(make([]int, mostLong-1), top))
	isNot(t, append(all()[1:], math.MaxInt), most-1, nil)
	for _, n := range ns() {
		for _, none := range [][]int{nil, {}} {
			isNot(t, none, n, wordsOf(from(0, n)))
		}
		isNot(t, wordsOf(from(0, n)), n, nil)
		isNot(t, all(), n, nil)
		isNot(t, wordsOf(from(n, most)), n, wordsOf(from(0, n)))
		if n > 0 && n < most {
			isNot(t, wordsOf([]int{n - 1}), n, wordsOf(from(0, n-1)))
			isNot(t, wordsOf([]int{0}), n, wordsOf(from(1, n)))
			isNot(t, wordsOf([]int{n}), n, wordsOf(from(0, n)))
			isNot(t, wordsOf([]int{most - 1}), n, wordsOf(from(0, n)))
			isNot(t, wordsOf([]int{n - 1, n}), n, wordsOf(from(0, n-1)))
			isNot(t, wordsOf(from(0, n-1)), n, wordsOf([]int{n - 1}))
			isNot(t, wordsOf(from(0, n+1)), n, nil)
		}
	}
}

func TestNotOfStirredWords(t *testing.T) {
	s := stir(2)
	for range 300 {
		l := s.words(4)
		n := s.below(300)
		isNot(t, l, n, notOf(l, n))
	}
	for range 5 {
		l := s.words(mostLong)
		for _, n := range ns() {
			isNot(t, l, n, notOf(l, n))
		}
	}
}

func TestNotOfWhatMayNotBe(t *testing.T) {
	for _, n := range []int{-1, -2, -63, -64, -65, -most, math.MinInt, math.MinInt + 1, most + 1, most + 2, most + 64, 2 * most, 1 << 32, 1<<32 + 1, math.MaxInt - 63, math.MaxInt - 1, math.MaxInt} {
		for _, l := range [][]int{nil, {1}, {-1}, {0, top}, all(), {0}, {1, 0}, make([]int, mostLong+1)} {
			notNone(t, l, n)
		}
	}
	for _, n := range ns() {
		for _, l := range [][]int{{0}, {1, 0}, {0, 0}, {-1, 0}, make([]int, mostLong), append(all(), 1), append(all(), 0)} {
			notNone(t, l, n)
		}
	}
}

// All pairs of sets of few places, held against their places one by one.
func TestAllPairs(t *testing.T) {
	for _, first := range firsts(5) {
		for a := range 1 << 5 {
			for b := range 1 << 5 {
				areTogether(t, bitsOf(a, first), bitsOf(b, first), bitsOf(a&b, first), bitsOf(a|b, first), bitsOf(a&^b, first))
			}
		}
	}
	for _, first := range []int{0, 62, 126} {
		for a := range 1 << 5 {
			for b := range 1 << 5 {
				togetherAsMeant(t, bitsOf(a, first), bitsOf(b, first))
			}
		}
	}
}

// Not of all sets of few places, and each n beside them.
func TestNotOfFewPlaces(t *testing.T) {
	for _, first := range []int{0, 1, 57, 60, 61, 64, 125, 189} {
		for number := range 1 << 6 {
			l := bitsOf(number, first)
			for n := max(first-2, 0); n <= first+8; n++ {
				isNot(t, l, n, notOf(l, n))
			}
		}
	}
	for _, number := range []int{0, 1, 2, 31, 32, 33, 62, 63} {
		l := bitsOf(number, most-6)
		for n := most - 7; n <= most; n++ {
			isNot(t, l, n, notOf(l, n))
		}
	}
}

func TestStirredPairs(t *testing.T) {
	s := stir(3)
	for range 600 {
		togetherAsMeant(t, s.words(5), s.words(5))
	}
	for range 6 {
		togetherAsMeant(t, s.words(mostLong), s.words(mostLong))
	}
}

// Wo3

// spansMust are the spans of words that may be.
func spansMust(t *testing.T, l []int) []api.Span {
	t.Helper()
	spans, errno := Spans(l)
	if errno != api.OK || !span.May(spans) {
		t.Fatalf("Spans(%#x..), %d words: %v.., %d", short(l), len(l), short(spans), errno)
	}
	return spans
}

// alike fails if words, and the spans of the same places, do not tell, and go together to, the same.
func alike(t *testing.T, a, b []int, n int) {
	t.Helper()
	spansA, spansB := spansMust(t, a), spansMust(t, b)
	isOf(t, spansA, a)
	for name, call := range calls() {
		words, errno := call(a, b)
		spans, noSpans := spanCalls()[name](spansA, spansB)
		if errno != api.OK || noSpans != api.OK {
			t.Fatalf("%s(%#x.., %#x..): %d, %d", name, short(a), short(b), errno, noSpans)
		}
		hasSpans(t, words, spans)
		isOf(t, spans, words)
	}
	var places []api.Span
	if n > 0 {
		places = []api.Span{{Lo: 0, Hi: n}}
	}
	others, _ := span.Less(places, spansA)
	made, errno := Of(others)
	if errno != api.OK {
		t.Fatalf("Of(%v..): %d", short(others), errno)
	}
	isNot(t, a, n, made)
	if Count(a) != span.Count(spansA) {
		t.Errorf("Count(%#x..): %d, not %d", short(a), Count(a), span.Count(spansA))
	}
}

// placesAlike fails if words, and the spans of the same places, do not tell the same of a number.
func placesAlike(t *testing.T, l []int, k int) {
	t.Helper()
	spans := spansMust(t, l)
	placeIs(t, l, k, span.Has(spans, k), span.Rank(spans, k))
	at, errno := span.Pick(spans, k)
	picks(t, l, k, at, errno)
}

func TestWordsAndSpans(t *testing.T) {
	for _, first := range []int{0, 30, 59, 61, 62, 64, most - 66, most - 5} {
		for a := range 1 << 5 {
			for b := range 1 << 5 {
				alike(t, bitsOf(a, first), bitsOf(b, first), first+b%6)
			}
		}
	}
	s := stir(4)
	for range 500 {
		alike(t, s.words(6), s.words(6), s.below(400))
	}
	for range 20 {
		alike(t, s.words(mostLong), s.words(mostLong), s.below(most+1))
	}
	for range 100 {
		l := s.words(4)
		for k := -3; k < 270; k++ {
			placesAlike(t, l, k)
		}
		for _, k := range noPlaces {
			placesAlike(t, l, k)
		}
	}
}

// twice fails if Not of Not, of the places below n, is not words: if all of theirs are below n, these themselves; else those of them that are.
func twice(t *testing.T, l []int, n int) {
	t.Helper()
	once, errno := Not(l, n)
	if errno != api.OK {
		t.Fatalf("Not(%#x.., %d): %d", short(l), n, errno)
	}
	want, _ := And(l, wordsOf(from(0, n)))
	isNot(t, once, n, want)
	if Rank(l, n) == Count(l) && !slices.Equal(want, l) {
		t.Errorf("of %#x.., %d: %#x..", short(l), n, short(want))
	}
	if Count(once)+Rank(l, n) != n {
		t.Errorf("Not(%#x.., %d): %d places beside %d", short(l), n, Count(once), Rank(l, n))
	}
}

func TestTwiceNot(t *testing.T) {
	s := stir(5)
	for _, n := range ns() {
		for _, l := range [][]int{nil, {1}, {-1}, {top}, {top, 1}, {0, 1}, {3, 1}, {-1, -1}, all(), s.words(3), s.words(n / 64), s.words(mostLong)} {
			twice(t, l, n)
		}
	}
	for _, first := range []int{0, 61, 64} {
		for number := range 1 << 6 {
			for n := first; n <= first+8; n++ {
				twice(t, bitsOf(number, first), n)
			}
		}
	}
	for range 500 {
		twice(t, s.words(4), s.below(300))
	}
}

// must are the words that a call answers of two that may be.
func must(t *testing.T, call func(a, b []int) ([]int, api.Errno), a, b []int) []int {
	t.Helper()
	l, errno := call(a, b)
	if errno != api.OK || !May(l) {
		t.Fatalf("of %#x.. and %#x..: %#x.., %d", short(a), short(b), short(l), errno)
	}
	return l
}

// goTogether fails if three do not go together as sets do.
func goTogether(t *testing.T, a, b, c []int) {
	t.Helper()
	and := func(a, b []int) []int { return must(t, And, a, b) }
	or := func(a, b []int) []int { return must(t, Or, a, b) }
	less := func(a, b []int) []int { return must(t, Less, a, b) }
	not := func(l []int) []int {
		return must(t, func(l, _ []int) ([]int, api.Errno) { return Not(l, most) }, l, nil)
	}
	for law, sides := range map[string][2][]int{
		"both orders of And":    {and(a, b), and(b, a)},
		"both orders of Or":     {or(a, b), or(b, a)},
		"And of three":          {and(and(a, b), c), and(a, and(b, c))},
		"Or of three":           {or(or(a, b), c), or(a, or(b, c))},
		"And of Or":             {and(a, or(b, c)), or(and(a, b), and(a, c))},
		"Or of And":             {or(a, and(b, c)), and(or(a, b), or(a, c))},
		"And and Less together": {or(and(a, b), less(a, b)), a},
		"Less by Not":           {less(a, b), and(a, not(b))},
		"Not of And":            {not(and(a, b)), or(not(a), not(b))},
		"Not of Or":             {not(or(a, b)), and(not(a), not(b))},
		"with Not":              {or(a, not(a)), all()},
		"nothing with Not":      {and(a, not(a)), nil},
	} {
		if !slices.Equal(sides[0], sides[1]) {
			t.Errorf("%s, of %#x.., %#x.. and %#x..: %#x.. and %#x..", law, short(a), short(b), short(c), short(sides[0]), short(sides[1]))
		}
	}
	if Count(a)+Count(b) != Count(and(a, b))+Count(or(a, b)) {
		t.Errorf("counts of %#x.. and %#x..", short(a), short(b))
	}
}

func TestGoTogetherAsSets(t *testing.T) {
	s := stir(6)
	for range 150 {
		goTogether(t, s.words(4), s.words(4), s.words(4))
	}
	for range 20 {
		goTogether(t, s.words(mostLong), s.words(mostLong), s.words(mostLong))
	}
	goTogether(t, all(), nil, []int{top, 1})
}

// R1 to R4

// What is handed in stays as it is, and what lies behind its end is neither read nor written.
func TestRulesOfArguments(t *testing.T) {
	a := []int{3, -1, top, 0, 5, 0}
	b := []int{1, 6, 12, 0}
	spans := []api.Span{{Lo: 1, Hi: 3}, {Lo: 63, Hi: 66}, {Lo: 66, Hi: 1}, {Lo: 90, Hi: 91}}
	wasA, wasB, wasSpans := slices.Clone(a), slices.Clone(b), slices.Clone(spans)
	refused(t, a)
	refused(t, b)
	refused(t, a[:4])
	for _, l := range [][]int{a[:5], a[:3], a[:2], a[:1], a[:0], a[1:3], a[4:5], b[:3]} {
		told(t, l)
		toldByPlaces(t, l)
		isNot(t, l, 130, notOf(l, 130))
		togetherAsMeant(t, l, b[:2])
		togetherAsMeant(t, l, a[:3])
	}
	ofNone(t, spans)
	isOf(t, spans[:2], []int{top + 6, 3})
	isOf(t, spans[3:], []int{0, 1 << 26})
	isOf(t, spans[:0], nil)
	if !slices.Equal(a, wasA) || !slices.Equal(b, wasB) || !slices.Equal(spans, wasSpans) {
		t.Errorf("what was handed in became %#x, %#x, %v", a, b, spans)
	}
}

// What is answered is new memory, also where it is the same as what was handed in.
func TestRulesOfAnswers(t *testing.T) {
	want := []int{3, 0, 1}
	room := slices.Grow(slices.Clone(want), 8) // with room behind its end, that an answer must not take
	behind := room[:5]
	behind[3], behind[4] = 8, 9
	for _, l := range [][]int{slices.Clone(want), room} {
		var answers [][]int
		for range 2 {
			answers = append(answers, must(t, And, l, l), must(t, And, l, all()), must(t, And, all(), l), must(t, Or, l, l), must(t, Or, l, nil), must(t, Or, nil, l), must(t, Or, l, l[:0]), must(t, Or, l[:1], l), must(t, Less, l, nil), must(t, Less, l, l[:0]), must(t, Less, l, []int{4}))
			made, _ := Of([]api.Span{{Lo: 0, Hi: 2}, {Lo: 128, Hi: 129}})
			others, _ := Not(l, 129)
			again, _ := Not(others, 129)
			answers = append(answers, made, again)
		}
		for k, one := range answers {
			if !slices.Equal(one, want) {
				t.Errorf("answer %d: %#x", k, one)
			}
			_ = append(one, 7, 7)
			clear(one[:cap(one)])
		}
		if !slices.Equal(l, want) || behind[3] != 8 || behind[4] != 9 {
			t.Errorf("what was handed in became %#x, %#x", l, behind)
		}
	}
	first, _ := Spans(want)
	again, _ := Spans(want)
	clear(first[:cap(first)])
	if !slices.Equal(again, []api.Span{{Lo: 0, Hi: 2}, {Lo: 128, Hi: 129}}) {
		t.Errorf("two answers share memory: %v", again)
	}
}

// No call panics, whatever it is given, and the same is answered again.
func TestAnyArguments(t *testing.T) {
	s := stir(7)
	numbers := slices.Concat(noPlaces, []int{0, 0, 0, 1, 2, 3, 62, 63, 64, 65, 127, 128, 129, most - 1, most})
	number := func() int { return numbers[s.below(len(numbers))] }
	some := func() []int {
		l := make([]int, s.below(4))
		for k := range l {
			l[k] = number()
		}
		return l
	}
	for range 5000 {
		a, b, at := some(), some(), number()
		mayA, mayB := mayWords(a), mayWords(b)
		if May(a) != mayA || !mayA && Count(a) != 0 || Has(a, at) != (mayA && isIn(a, at)) {
			t.Fatalf("of %#x: %t, %d; at %d: %t", a, May(a), Count(a), at, Has(a, at))
		}
		if mayA && mayB {
			togetherAsMeant(t, a, b)
		} else {
			goNot(t, a, b)
		}
		if mayA && at >= 0 && at <= most {
			isNot(t, a, at, notOf(a, at))
		} else {
			notNone(t, a, at)
		}
		picked, noPicked := Pick(a, at)
		if again, errno := Pick(a, at); again != picked || errno != noPicked || noPicked != api.OK && picked != 0 || (noPicked == api.ErrArg) == mayA {
			t.Fatalf("Pick(%#x, %d): %d, %d, then %d, %d", a, at, picked, noPicked, again, errno)
		}
		if Rank(a, at) != Rank(a, at) || Rank(a, at) < 0 || Rank(a, at) > Count(a) {
			t.Fatalf("Rank(%#x, %d): %d", a, at, Rank(a, at))
		}
	}
}

// Long lists end, and are refused.
func TestLongLists(t *testing.T) {
	long := slices.Repeat([]int{5}, 1<<20)
	refused(t, long)
	refused(t, long[:mostLong+1])
	told(t, long[:mostLong])
	spans := make([]api.Span, 1<<20)
	for k := range spans {
		spans[k] = api.Span{Lo: 2 * k, Hi: 2*k + 1}
	}
	ofNone(t, spans)
	ofNone(t, spans[:most/2+1])
	isOf(t, spans[:most/2], slices.Repeat([]int{0x5555555555555555}, mostLong))
}
