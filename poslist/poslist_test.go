package poslist

import (
	"iter"
	"peristyle/api"
	"peristyle/span"
	"peristyle/words"
	"slices"
	"testing"
)

// mayNot are spans that may not be.
func mayNot() [][]api.Span {
	return [][]api.Span{
		{{}}, {{Lo: -1, Hi: 2}}, {{Lo: -5, Hi: -2}}, {{Lo: least, Hi: 2}}, {{Lo: least, Hi: great}}, {{Lo: 2, Hi: 2}}, {{Lo: most, Hi: most}}, {{Lo: 3, Hi: 2}}, {{Lo: great, Hi: least}}, {{Lo: 0, Hi: least}}, {{Lo: 0, Hi: -1}},
		{{Lo: 0, Hi: most + 1}}, {{Lo: most, Hi: most + 1}}, {{Lo: 0, Hi: great}}, {{Lo: 1 << 32, Hi: 1<<32 + 1}},
		{{Lo: 0, Hi: 2}, {Lo: 2, Hi: 3}}, {{Lo: 0, Hi: 64}, {Lo: 64, Hi: 65}}, {{Lo: 0, Hi: 2}, {Lo: 1, Hi: 3}}, {{Lo: 5, Hi: 6}, {Lo: 0, Hi: 1}}, {{Lo: 0, Hi: 1}, {Lo: 0, Hi: 1}}, {{Lo: 0, Hi: most}, {Lo: 0, Hi: most}},
		{{Lo: 0, Hi: 1}, {Lo: 2, Hi: 3}, {Lo: most - 1, Hi: most + 1}}, {{Lo: 0, Hi: 1}, {Lo: 3, Hi: 2}, {Lo: 4, Hi: 9}}, {{Lo: -1, Hi: 1}, {Lo: 4, Hi: 9}}, {{Lo: 0, Hi: great}, {Lo: 1, Hi: 5}},
	}
}

// Po1

// Places 3, 4 and 5: spans cost 8, words 8, places 6.
func TestExample(t *testing.T) {
	for _, l := range []List{must(t)(From([]int{3, 4, 5})), must(t)(Best([]api.Span{{Lo: 3, Hi: 6}}))} {
		if l.Form() != api.FormPlaces || l.Cost(api.FormSpans) != 8 || l.Cost(api.FormWords) != 8 || l.Cost(api.FormPlaces) != 6 {
			t.Error(l.Form(), l.Cost(api.FormSpans), l.Cost(api.FormWords), l.Cost(api.FormPlaces))
		}
		whole(t, l, []int{3, 4, 5}, api.FormPlaces)
	}
	for _, form := range forms() {
		l := must(t)(Of([]api.Span{{Lo: 3, Hi: 6}}, form))
		if l.Form() != form || l.Count() != 3 || !slices.Equal(l.Spans(), []api.Span{{Lo: 3, Hi: 6}}) || !slices.Equal(slices.Collect(l.Places()), []int{3, 4, 5}) {
			t.Error(l.Form(), l.Count(), l.Spans())
		}
		placeIs(t, l, 2, false, 0)
		placeIs(t, l, 3, true, 0)
		placeIs(t, l, 5, true, 2)
		placeIs(t, l, 6, false, 3)
		picks(t, l, -1, 0, api.ErrNone)
		picks(t, l, 0, 3, api.OK)
		picks(t, l, 2, 5, api.OK)
		picks(t, l, 3, 0, api.ErrNone)
	}
	if l := must(t)(All(1000)); l.Form() != api.FormSpans {
		t.Error(l.Form())
	}
}

// isNone fails if a list is not the empty set, in that form, in each call.
func isNone(t *testing.T, l List, form int) {
	t.Helper()
	whole(t, l, nil, form)
	for _, k := range []int{0, 1, 63, 64, 65, most - 1} {
		placeIs(t, l, k, false, 0)
		picks(t, l, k, 0, api.ErrNone)
	}
	for range l.Places() {
		t.Error("a place of none")
	}
	for _, f := range forms() {
		told(t, must(t)(l.As(f)), nil, f)
	}
	for _, from := range []int{least, -1, 0, 1, great} {
		for _, count := range []int{least, -1, 0, 1, great} {
			told(t, l.Slice(from, count), nil, api.FormSpans)
		}
	}
	for _, places := range [][]int{nil, {0}, {3, 4, 5}, from(0, 64), every(1, 2, 60), {most - 1}, from(0, most)} {
		for _, f := range forms() {
			other := in(t, places, f)
			told(t, l.And(other), nil, api.FormSpans)
			told(t, other.And(l), nil, api.FormSpans)
			toldBest(t, l.Or(other), places)
			toldBest(t, other.Or(l), places)
			told(t, l.Less(other), nil, api.FormSpans)
			toldBest(t, other.Less(l), places)
		}
	}
	told(t, l.And(l), nil, api.FormSpans)
	told(t, l.Or(l), nil, api.FormSpans)
	told(t, l.Less(l), nil, api.FormSpans)
}

func TestZeroList(t *testing.T) {
	isNone(t, List{}, api.FormSpans)
	var l List
	isNone(t, l, api.FormSpans)
	isNone(t, [2]List{}[1], api.FormSpans)
	told(t, l.And(List{}), nil, api.FormSpans)
	told(t, l.Or(List{}), nil, api.FormSpans)
	told(t, l.Less(List{}), nil, api.FormSpans)
}

func TestEmptySet(t *testing.T) {
	for _, none := range [][]api.Span{nil, {}} {
		for _, form := range forms() {
			isNone(t, must(t)(Of(none, form)), form)
		}
		isNone(t, must(t)(Best(none)), api.FormSpans)
	}
	for _, none := range [][]int{nil, {}} {
		isNone(t, must(t)(From(none)), api.FormSpans)
	}
	isNone(t, must(t)(All(0)), api.FormSpans)
	for a, b := range pairs(t, nil, nil) {
		for name, call := range calls() {
			if l := call(a, b); l.Form() != api.FormSpans || l.Count() != 0 {
				t.Error(name, a.Form(), b.Form(), l.Form())
			}
		}
	}
}

func TestOf(t *testing.T) {
	for name, places := range sets() {
		t.Run(name, func(t *testing.T) {
			for _, form := range forms() {
				whole(t, must(t)(Of(spansOf(places), form)), places, form)
			}
		})
	}
}

func TestOfOnePlace(t *testing.T) {
	for _, at := range []int{0, 1, 2, 31, 32, 62, 63, 64, 65, 127, 128, 129, 1023, 1024, most - 65, most - 64, most - 2, most - 1} {
		for _, form := range forms() {
			l := must(t)(Of([]api.Span{{Lo: at, Hi: at + 1}}, form))
			whole(t, l, []int{at}, form)
			picks(t, l, 0, at, api.OK)
			picks(t, l, 1, 0, api.ErrNone)
		}
	}
}

// One span from each place to each, over a border.
func TestOfOneSpan(t *testing.T) {
	for lo := 56; lo < 72; lo++ {
		for hi := lo + 1; hi <= 140; hi++ {
			for _, form := range forms() {
				told(t, must(t)(Of([]api.Span{{Lo: lo, Hi: hi}}, form)), from(lo, hi), form)
			}
		}
	}
}

func TestOfManyPlaces(t *testing.T) {
	for name, places := range greatSets() {
		t.Run(name, func(t *testing.T) {
			for _, form := range forms() {
				l := must(t)(Of(spansOf(places), form))
				told(t, l, places, form)
				toldOfNoPlaces(t, l, places)
				for _, k := range []int{0, 1, 62, 63, 64, 500, len(places) / 2, len(places) - 2, len(places) - 1} {
					picks(t, l, k, places[k], api.OK)
					placeIs(t, l, places[k], true, k)
				}
			}
		})
	}
}

func TestOfWhatMayNotBe(t *testing.T) {
	for _, l := range mayNot() {
		for _, form := range slices.Concat(forms(), noForms) {
			got, errno := Of(l, form)
			refused(t, "Of", got, errno)
		}
		got, errno := Best(l)
		refused(t, "Best", got, errno)
	}
}

func TestNoForm(t *testing.T) {
	for _, form := range noForms {
		for _, places := range sets() {
			got, errno := Of(spansOf(places), form)
			refused(t, "Of", got, errno)
			for _, f := range forms() {
				l := in(t, places, f)
				got, errno := l.As(form)
				refused(t, "As", got, errno)
				if cost := l.Cost(form); cost != 0 {
					t.Errorf("Cost(%d): %d", form, cost)
				}
				told(t, l, places, f)
			}
		}
	}
}

// bestCases are places, what each form of them costs, and which one is best.
func bestCases() []struct {
	places                   []int
	spans, words, each, best int
} {
	return []struct {
		places                   []int
		spans, words, each, best int
	}{
		// One form costs least.
		{from(0, 1000), 8, 128, 2000, api.FormSpans},
		{from(64, 69), 8, 16, 10, api.FormSpans},
		{from(0, most), 8, 8192, 131072, api.FormSpans},
		{slices.Concat(from(0, 5), from(60, 70)), 16, 16, 30, api.FormSpans},
		{every(1, 2, 60), 480, 16, 120, api.FormWords},
		{every(0, 2, 5), 40, 8, 10, api.FormWords},
		{every(0, 2, most/2), 262144, 8192, 65536, api.FormWords},
		{[]int{3, 4, 5}, 8, 8, 6, api.FormPlaces},
		{[]int{0}, 8, 8, 2, api.FormPlaces},
		{[]int{3, 5}, 16, 8, 4, api.FormPlaces},
		{every(0, 1000, 66), 528, 8 * 1016, 132, api.FormPlaces},
		// Words that are 0 cost as well.
		{[]int{most - 1}, 8, 8192, 2, api.FormPlaces},
		{from(most-4, most), 8, 8192, 8, api.FormSpans},
		{every(128, 2, 11), 88, 24, 22, api.FormPlaces},
		{every(128, 2, 13), 104, 24, 26, api.FormWords},
		{every(192, 2, 13), 104, 32, 26, api.FormPlaces},
		{[]int{0, 2, 4, 6, 8, 10, 640}, 56, 88, 14, api.FormPlaces},
		// Two cost as much, and the third one more.
		{from(0, 64), 8, 8, 128, api.FormSpans},
		{from(0, 5), 8, 8, 10, api.FormSpans},
		{slices.Concat(from(0, 20), from(30, 65)), 16, 16, 110, api.FormSpans},
		{from(1000, 1004), 8, 128, 8, api.FormSpans},
		{slices.Concat(from(1000, 1004), from(1005, 1009)), 16, 128, 16, api.FormSpans},
		{[]int{3, 4, 5, 9}, 16, 8, 8, api.FormWords},
		{every(0, 16, 8), 64, 16, 16, api.FormWords},
		{every(128, 2, 12), 96, 24, 24, api.FormWords},
		// Two cost as much, and the third one less.
		{[]int{63}, 8, 8, 2, api.FormPlaces},
		{[]int{0, 64}, 16, 16, 4, api.FormPlaces},
		{slices.Concat(from(0, 3), []int{9, 64}), 24, 16, 10, api.FormPlaces},
		// All three cost as much.
		{nil, 0, 0, 0, api.FormSpans},
		{from(0, 4), 8, 8, 8, api.FormSpans},
		{from(1, 5), 8, 8, 8, api.FormSpans},
		{from(60, 64), 8, 8, 8, api.FormSpans},
		{slices.Concat(from(5, 9), from(100, 104)), 16, 16, 16, api.FormSpans},
		{slices.Concat(from(5, 6), from(100, 107)), 16, 16, 16, api.FormSpans},
	}
}

// Each call that answers in the best form.
func TestBest(t *testing.T) {
	s := stir(1)
	for _, c := range bestCases() {
		if costOf(c.places, api.FormSpans) != c.spans || costOf(c.places, api.FormWords) != c.words || costOf(c.places, api.FormPlaces) != c.each || bestOf(c.places) != c.best {
			t.Fatalf("%v.. is told wrong by the test", short(c.places))
		}
		told(t, must(t)(Best(spansOf(c.places))), c.places, c.best)
		told(t, must(t)(From(c.places)), c.places, c.best)
		told(t, must(t)(From(s.shuffled(c.places))), c.places, c.best)
		for _, form := range forms() {
			l := in(t, c.places, form)
			if l.Cost(api.FormSpans) != c.spans || l.Cost(api.FormWords) != c.words || l.Cost(api.FormPlaces) != c.each {
				t.Errorf("costs of %v.., form %d: %d, %d, %d", short(c.places), form, l.Cost(api.FormSpans), l.Cost(api.FormWords), l.Cost(api.FormPlaces))
			}
			told(t, l.And(l), c.places, c.best)
			told(t, l.Or(l), c.places, c.best)
			told(t, l.Less(List{}), c.places, c.best)
			told(t, l.Slice(0, len(c.places)), c.places, c.best)
			told(t, l.Slice(-1, great), c.places, c.best)
		}
	}
}

func TestFrom(t *testing.T) {
	for _, c := range []struct{ l, places []int }{
		{[]int{0}, []int{0}},
		{[]int{most - 1}, []int{most - 1}},
		{[]int{0, most - 1}, []int{0, most - 1}},
		{[]int{most - 1, 0, most - 1}, []int{0, most - 1}},
		{[]int{5, 4, 3}, []int{3, 4, 5}},
		{[]int{9, 3, 4, 5, 3}, []int{3, 4, 5, 9}},
		{[]int{7, 7, 7, 7}, []int{7}},
		{[]int{64, 63, 64, 63}, []int{63, 64}},
		{[]int{5, 3, 1, 1, 3, 5}, []int{1, 3, 5}},
		{slices.Repeat([]int{1, 0}, 1000), []int{0, 1}},
	} {
		l := must(t)(From(c.l))
		whole(t, l, c.places, bestOf(c.places))
	}
	s := stir(2)
	for _, places := range sets() {
		falling := slices.Clone(places)
		slices.Reverse(falling)
		for _, l := range [][]int{places, falling, s.shuffled(places), slices.Concat(places, places), slices.Concat(places, falling)} {
			toldBest(t, must(t)(From(l)), places)
		}
	}
	toldBest(t, must(t)(From(s.shuffled(from(0, most)))), from(0, most))
}

func TestFromNoPlaces(t *testing.T) {
	for _, at := range noPlaces {
		for _, l := range [][]int{{at}, {at, 3, 4}, {3, 4, at}, {3, at, 4}, {at, at}, {0, at, most - 1}, append(from(0, 300), at)} {
			got, errno := From(l)
			refused(t, "From", got, errno)
		}
	}
	got, errno := From([]int{-1, most})
	refused(t, "From", got, errno)
}

func TestAll(t *testing.T) {
	for n, form := range map[int]int{0: api.FormSpans, 1: api.FormPlaces, 2: api.FormPlaces, 3: api.FormPlaces, 4: api.FormSpans, 5: api.FormSpans, 63: api.FormSpans, 64: api.FormSpans, 65: api.FormSpans, 128: api.FormSpans, 1000: api.FormSpans, most - 1: api.FormSpans, most: api.FormSpans} {
		l := must(t)(All(n))
		told(t, l, from(0, n), form)
		toldOfNoPlaces(t, l, from(0, n))
	}
	for n := range 200 {
		toldBest(t, must(t)(All(n)), from(0, n))
	}
	for _, n := range []int{-1, -2, -64, -most, -1 << 32, least, least + 1, most + 1, most + 2, most + 64, 2 * most, 1 << 32, 1<<32 + 1, great - 63, great - 1, great} {
		l, errno := All(n)
		refused(t, "All", l, errno)
	}
}

// From each form to each, and back.
func TestAs(t *testing.T) {
	for name, places := range sets() {
		t.Run(name, func(t *testing.T) {
			for _, first := range forms() {
				l := in(t, places, first)
				for _, form := range forms() {
					as := must(t)(l.As(form))
					whole(t, as, places, form)
					told(t, must(t)(as.As(first)), places, first)
					told(t, l, places, first)
				}
			}
		})
	}
	for _, places := range greatSets() {
		for _, first := range forms() {
			for _, form := range forms() {
				told(t, must(t)(in(t, places, first).As(form)), places, form)
			}
		}
	}
}

// Po2

// upTo are the places that are gone over, till there are so many.
func upTo(places iter.Seq[int], most int) []int {
	var l []int
	if most == 0 {
		return l
	}
	for at := range places {
		l = append(l, at)
		if len(l) == most {
			break
		}
	}
	return l
}

func TestPlaces(t *testing.T) {
	for _, places := range sets() {
		for _, form := range forms() {
			over := in(t, places, form).Places()
			for range 2 {
				if got := slices.Collect(over); !slices.Equal(got, places) {
					t.Errorf("form %d: %v..", form, short(got))
				}
			}
			for _, count := range []int{1, 2, len(places) / 2, len(places) - 1, len(places), len(places) + 1} {
				if got, want := upTo(over, max(count, 0)), places[:min(max(count, 0), len(places))]; !slices.Equal(got, want) {
					t.Errorf("form %d, left behind %d: %v..", form, count, short(got))
				}
			}
			if got := slices.Collect(over); !slices.Equal(got, places) {
				t.Errorf("form %d, once it was left: %v..", form, short(got))
			}
		}
	}
}

// Left at the first place, and in the midst: no place more is told.
func TestPlacesLeft(t *testing.T) {
	for _, places := range [][]int{{0}, {0, 1}, {3, 4, 5, 9}, from(0, 64), from(60, 70), {63, 64}, every(1, 64, 5)} {
		for _, form := range forms() {
			for stop := range len(places) {
				told := 0
				in(t, places, form).Places()(func(at int) bool {
					if told > stop || at != places[told] {
						t.Errorf("form %d, left at %d: %d", form, stop, at)
					}
					told++
					return told <= stop
				})
				if told != stop+1 {
					t.Errorf("form %d, left at %d: %d told", form, stop, told)
				}
			}
		}
	}
}

// Two go over the same places at once, one within the other, and by turns.
func TestPlacesByTwo(t *testing.T) {
	places := []int{3, 4, 5, 9, 63, 64, 65, 200}
	for _, form := range forms() {
		l := in(t, places, form)
		over := l.Places()
		var outer []int
		for at := range over {
			outer = append(outer, at)
			if got := slices.Collect(over); !slices.Equal(got, places) {
				t.Errorf("form %d, within %d: %v", form, at, got)
			}
			if got := slices.Collect(l.Places()); !slices.Equal(got, places) {
				t.Errorf("form %d, within %d: %v", form, at, got)
			}
		}
		if !slices.Equal(outer, places) {
			t.Errorf("form %d: %v", form, outer)
		}
		first, stopFirst := iter.Pull(over)
		second, stopSecond := iter.Pull(over)
		for k, at := range places {
			for name, next := range map[string]func() (int, bool){"first": first, "second": second} {
				if got, ok := next(); got != at || !ok {
					t.Errorf("form %d, %s, number %d: %d, %t", form, name, k, got, ok)
				}
			}
		}
		if _, ok := first(); ok {
			t.Errorf("form %d: one more", form)
		}
		stopFirst()
		stopSecond()
	}
}

func TestStirredLists(t *testing.T) {
	s := stir(3)
	for range 60 {
		places := s.places(1 + s.below(400))
		for _, form := range forms() {
			whole(t, in(t, places, form), places, form)
		}
		toldBest(t, must(t)(From(s.shuffled(places))), places)
		toldBest(t, must(t)(Best(spansOf(places))), places)
	}
	for range 5 {
		places := s.places(most)
		for _, form := range forms() {
			told(t, in(t, places, form), places, form)
		}
		toldBest(t, must(t)(Best(spansOf(places))), places)
	}
}

func TestTogether(t *testing.T) {
	odd := every(1, 2, 60)
	for _, c := range []struct{ a, b, and, or, less []int }{
		{[]int{3, 4, 5}, []int{5, 6}, []int{5}, []int{3, 4, 5, 6}, []int{3, 4}},
		// Nothing in common.
		{[]int{3, 4, 5}, []int{6, 7}, nil, from(3, 8), []int{3, 4, 5}},
		{from(0, 64), from(64, 128), nil, from(0, 128), from(0, 64)},
		{odd, every(0, 2, 60), nil, from(0, 120), odd},
		{[]int{0}, []int{most - 1}, nil, []int{0, most - 1}, []int{0}},
		// One lies within the other one.
		{from(0, 1000), odd, odd, from(0, 1000), slices.Concat(every(0, 2, 60), from(120, 1000))},
		{from(3, 9), from(5, 7), []int{5, 6}, from(3, 9), []int{3, 4, 7, 8}},
		{from(0, most), []int{most - 1}, []int{most - 1}, from(0, most), from(0, most-1)},
		{from(0, most), from(64, most), from(64, most), from(0, most), from(0, 64)},
		// They meet at one place, and at a border.
		{from(0, 64), from(63, 128), []int{63}, from(0, 128), from(0, 63)},
		{from(0, 65), from(64, 128), []int{64}, from(0, 128), from(0, 64)},
		{from(10, 20), from(20, 30), nil, from(10, 30), from(10, 20)},
		{[]int{62, 63}, []int{64, 65}, nil, []int{62, 63, 64, 65}, []int{62, 63}},
		// Nothing is left.
		{[]int{3, 4, 5}, from(0, 1000), []int{3, 4, 5}, from(0, 1000), nil},
		{odd, from(0, most), odd, from(0, most), nil},
		// The last words go.
		{[]int{1, 300}, []int{1, 301}, []int{1}, []int{1, 300, 301}, []int{300}},
		{append(slices.Clone(odd), 640), append(slices.Clone(odd), 641), odd, append(slices.Clone(odd), 640, 641), []int{640}},
	} {
		goAs(t, c.a, c.b, c.and, c.or, c.less)
		goAsMeant(t, c.a, c.b)
	}
}

// All pairs of some sets, in all forms and both orders.
func TestTogetherOfSets(t *testing.T) {
	for _, a := range sets() {
		for _, b := range sets() {
			and, or, less := goes(a, b)
			goAs(t, a, b, and, or, less)
		}
	}
	for _, a := range greatSets() {
		goAs(t, a, a, a, a, nil)
		goAs(t, a, nil, nil, a, a)
		goAs(t, nil, a, nil, a, nil)
		goAsMeant(t, a, []int{3, 4, 5, 64, most - 1})
		goAsMeant(t, a, every(0, 5, most/5))
	}
}

// The same list on both sides.
func TestTogetherWithItself(t *testing.T) {
	for _, places := range sets() {
		for _, form := range forms() {
			l := in(t, places, form)
			toldBest(t, l.And(l), places)
			toldBest(t, l.Or(l), places)
			told(t, l.Less(l), nil, api.FormSpans)
			told(t, l, places, form)
		}
		goAs(t, places, places, places, places, nil)
	}
}

// All pairs of sets of few places, held against their places one by one.
func TestAllPairs(t *testing.T) {
	for _, first := range []int{0, 60, 62, most - 5} {
		for a := range 1 << 5 {
			for b := range 1 << 5 {
				goAs(t, bitsOf(a, first), bitsOf(b, first), bitsOf(a&b, first), bitsOf(a|b, first), bitsOf(a&^b, first))
			}
		}
	}
}

func TestStirredPairs(t *testing.T) {
	s := stir(4)
	for range 150 {
		goAsMeant(t, s.places(1+s.below(300)), s.places(1+s.below(300)))
	}
	for range 4 {
		goAsMeant(t, s.places(most), s.places(most))
	}
}

func TestSlice(t *testing.T) {
	odd := every(1, 2, 60)
	for _, c := range []struct {
		places      []int
		from, count int
		want        []int
	}{
		{[]int{3, 4, 5, 9}, -1, 2, []int{3, 4}},
		{[]int{3, 4, 5, 9}, -3, 2, []int{3, 4}},
		{[]int{3, 4, 5, 9}, least, 2, []int{3, 4}},
		{[]int{3, 4, 5, 9}, least, great, []int{3, 4, 5, 9}},
		{[]int{3, 4, 5, 9}, 0, 2, []int{3, 4}},
		{[]int{3, 4, 5, 9}, 1, 2, []int{4, 5}},
		{[]int{3, 4, 5, 9}, 2, 2, []int{5, 9}},
		{[]int{3, 4, 5, 9}, 2, 3, []int{5, 9}},
		{[]int{3, 4, 5, 9}, 3, 1, []int{9}},
		{[]int{3, 4, 5, 9}, 3, great, []int{9}},
		{[]int{3, 4, 5, 9}, 4, 1, nil},
		{[]int{3, 4, 5, 9}, 4, great, nil},
		{[]int{3, 4, 5, 9}, great, great, nil},
		{[]int{3, 4, 5, 9}, great, 1, nil},
		{[]int{3, 4, 5, 9}, 1, 0, nil},
		{[]int{3, 4, 5, 9}, 1, -1, nil},
		{[]int{3, 4, 5, 9}, 1, least, nil},
		{[]int{3, 4, 5, 9}, least, least, nil},
		{[]int{3, 4, 5, 9}, 0, 4, []int{3, 4, 5, 9}},
		// The answer's best form is another one than the list's.
		{odd, 58, 9, []int{117, 119}},
		{odd, 0, 3, []int{1, 3, 5}},
		{odd, 0, 20, every(1, 2, 20)},
		{from(0, 1000), 10, 2, []int{10, 11}},
		{from(0, 1000), 998, 5, []int{998, 999}},
		{slices.Concat(odd, from(200, 300)), 60, 100, from(200, 300)},
		{slices.Concat(odd, from(200, 300)), 61, 98, from(201, 299)},
		{[]int{0, 1, 2, 3, 4, 5, 6, 7, 8, 60}, 0, 9, from(0, 9)},
		{from(0, most), most - 1, 2, []int{most - 1}},
		{from(0, most), 0, most - 1, from(0, most-1)},
		{from(0, most), 64, 64, from(64, 128)},
	} {
		slicesAs(t, c.places, c.from, c.count, c.want)
		if !slices.Equal(sliceOf(c.places, c.from, c.count), c.want) {
			t.Errorf("%v.., %d, %d is told wrong by the test", short(c.places), c.from, c.count)
		}
	}
}

func TestSliceOfSets(t *testing.T) {
	for _, places := range sets() {
		n := len(places)
		for _, from := range []int{least, least + 1, -n, -1, 0, 1, n / 2, n - 1, n, n + 1, great - 1, great} {
			left := n - min(max(from, 0), n)
			for _, count := range []int{least, least + 1, -1, 0, 1, 2, left - 1, left, left + 1, n, great - n, great - 1, great} {
				slicesAs(t, places, from, count, sliceOf(places, from, count))
			}
		}
	}
}

// Each slice of few places.
func TestSliceOfFewPlaces(t *testing.T) {
	for _, first := range []int{0, 61, most - 6} {
		for number := range 1 << 6 {
			places := bitsOf(number, first)
			for from := -2; from <= 7; from++ {
				for count := -2; count <= 7; count++ {
					slicesAs(t, places, from, count, sliceOf(places, from, count))
				}
			}
		}
	}
}

// The parts of a list, put together, are the list.
func TestParts(t *testing.T) {
	for _, places := range sets() {
		for _, form := range forms() {
			l := in(t, places, form)
			for _, part := range []int{1, 2, 7, 64, 1000} {
				var sum List
				count := 0
				for from := 0; from < len(places); from += part {
					one := l.Slice(from, part)
					if sum.And(one).Count() != 0 {
						t.Errorf("form %d: two parts of %d share a place", form, part)
					}
					sum, count = sum.Or(one), count+one.Count()
				}
				toldBest(t, sum, places)
				if count != len(places) {
					t.Errorf("form %d: %d places in parts of %d, not %d", form, count, part, len(places))
				}
				told(t, l, places, form)
			}
		}
	}
}

// Po3

// alike fails if lists, whatever their forms, do not go together to what layers 14 and 15 tell of the same places.
func alike(t *testing.T, a, b []int) {
	t.Helper()
	wordsA, noA := words.Of(spansOf(a))
	wordsB, noB := words.Of(spansOf(b))
	if noA != api.OK || noB != api.OK {
		t.Fatal(noA, noB)
	}
	for name, call := range calls() {
		spans, noSpans := spanCalls()[name](spansOf(a), spansOf(b))
		made, noWords := wordCalls()[name](wordsA, wordsB)
		bySpans, noBySpans := words.Spans(made)
		if noSpans != api.OK || noWords != api.OK || noBySpans != api.OK || !slices.Equal(spans, bySpans) {
			t.Fatalf("%s of %v.. and %v..: %v.., %v..", name, short(a), short(b), short(spans), short(bySpans))
		}
		best := must(t)(Best(spans))
		for listA, listB := range pairs(t, a, b) {
			if got := call(listA, listB); !slices.Equal(got.Spans(), spans) || got.Form() != best.Form() {
				t.Errorf("%s of %v.. and %v.., forms %d and %d: %v.., form %d, not %v.., form %d", name, short(a), short(b), listA.Form(), listB.Form(), short(got.Spans()), got.Form(), short(spans), best.Form())
			}
		}
	}
}

// placesAlike fails if a list, in whatever form, does not tell of a number what layers 14 and 15 tell of the same places.
func placesAlike(t *testing.T, places []int, k int) {
	t.Helper()
	spans := spansOf(places)
	made, _ := words.Of(spans)
	at, errno := span.Pick(spans, k)
	inWords, noWords := words.Pick(made, k)
	if at != inWords || errno != noWords {
		t.Fatalf("Pick(%d) of %v..: %d, %d", k, short(places), at, inWords)
	}
	for _, form := range forms() {
		l := in(t, places, form)
		placeIs(t, l, k, span.Has(spans, k), span.Rank(spans, k))
		placeIs(t, l, k, words.Has(made, k), words.Rank(made, k))
		picks(t, l, k, at, errno)
		if l.Count() != span.Count(spans) || l.Count() != words.Count(made) {
			t.Errorf("Count of %v..: %d", short(places), l.Count())
		}
	}
}

func TestAlike(t *testing.T) {
	for _, a := range sets() {
		for _, b := range sets() {
			alike(t, a, b)
		}
	}
	s := stir(5)
	for range 100 {
		alike(t, s.places(1+s.below(300)), s.places(1+s.below(300)))
	}
	for range 3 {
		alike(t, s.places(most), s.places(most))
	}
	for range 10 {
		places := s.places(1 + s.below(200))
		for k := -3; k < 270; k++ {
			placesAlike(t, places, k)
		}
		for _, k := range noPlaces {
			placesAlike(t, places, k)
		}
	}
}

// same fails if two lists are not the same set in the same form.
func same(t *testing.T, law string, a, b List) {
	t.Helper()
	if a.Form() != b.Form() || !slices.Equal(a.Spans(), b.Spans()) {
		t.Errorf("%s: %v.., form %d, and %v.., form %d", law, short(a.Spans()), a.Form(), short(b.Spans()), b.Form())
	}
}

// Whatever forms they are in, lists go together as sets do.
func TestLaws(t *testing.T) {
	s := stir(6)
	some := func() List {
		return in(t, s.places(1+s.below(300)), forms()[s.below(3)])
	}
	all := must(t)(All(300))
	for range 300 {
		a, b, c := some(), some(), some()
		best := must(t)(Best(a.Spans()))
		same(t, "both orders of And", a.And(b), b.And(a))
		same(t, "both orders of Or", a.Or(b), b.Or(a))
		same(t, "And of three", a.And(b).And(c), a.And(b.And(c)))
		same(t, "Or of three", a.Or(b).Or(c), a.Or(b.Or(c)))
		same(t, "And of Or", a.And(b.Or(c)), a.And(b).Or(a.And(c)))
		same(t, "Or of And", a.Or(b.And(c)), a.Or(b).And(a.Or(c)))
		same(t, "And and Less together", a.And(b).Or(a.Less(b)), best)
		same(t, "Less by the others", a.Less(b), a.And(all.Less(b)))
		same(t, "the others twice", all.Less(all.Less(a)), best)
		same(t, "two slices", a.Slice(0, a.Count()/2).Or(a.Slice(a.Count()/2, a.Count())), best)
		if a.Count()+b.Count() != a.And(b).Count()+a.Or(b).Count() {
			t.Errorf("counts of %v.. and %v..", short(a.Spans()), short(b.Spans()))
		}
		at := s.below(301)
		same(t, "a slice by a rank", a.Slice(0, a.Rank(at)), a.And(must(t)(All(at))))
	}
}

// R1 to R4

// What is handed in stays as it is, and what lies behind its end is neither read nor written.
func TestRulesOfArguments(t *testing.T) {
	spans := []api.Span{{Lo: 1, Hi: 3}, {Lo: 63, Hi: 66}, {Lo: 66, Hi: 1}, {Lo: 90, Hi: 91}}
	places := []int{9, 3, 4, 3, -1, most}
	wasSpans, wasPlaces := slices.Clone(spans), slices.Clone(places)
	for _, form := range forms() {
		got, errno := Of(spans, form)
		refused(t, "Of", got, errno)
		told(t, must(t)(Of(spans[:2], form)), []int{1, 2, 63, 64, 65}, form)
		told(t, must(t)(Of(spans[3:], form)), []int{90}, form)
		told(t, must(t)(Of(spans[:0], form)), nil, form)
	}
	toldBest(t, must(t)(Best(spans[:2])), []int{1, 2, 63, 64, 65})
	toldBest(t, must(t)(Best(spans[:1])), []int{1, 2})
	got, errno := From(places)
	refused(t, "From", got, errno)
	toldBest(t, must(t)(From(places[:4])), []int{3, 4, 9})
	toldBest(t, must(t)(From(places[:1])), []int{9})
	toldBest(t, must(t)(From(places[:0])), nil)
	if !slices.Equal(spans, wasSpans) || !slices.Equal(places, wasPlaces) {
		t.Errorf("what was handed in became %v, %v", spans, places)
	}
}

// A list stays as it was, whatever becomes of the slices that it was made of.
func TestRulesOfWhatIsKept(t *testing.T) {
	for _, places := range sets() {
		spans := spansOf(places)
		var lists []List
		for _, form := range forms() {
			lists = append(lists, must(t)(Of(spans, form)))
		}
		best := must(t)(Best(spans))
		numbers := slices.Clone(places)
		made := must(t)(From(numbers))
		over := best.Places()
		for k := range spans {
			spans[k] = api.Span{Lo: 7, Hi: 9}
		}
		for k := range numbers {
			numbers[k] = 7
		}
		for k, form := range forms() {
			told(t, lists[k], places, form)
		}
		toldBest(t, best, places)
		toldBest(t, made, places)
		if got := slices.Collect(over); !slices.Equal(got, places) {
			t.Errorf("places became %v..", short(got))
		}
	}
}

// spoil writes over all of an answer, and over the room behind its end.
func spoil(l []api.Span) {
	l = l[:cap(l)]
	for k := range l {
		l[k] = api.Span{Lo: 7, Hi: 9}
	}
}

// What is answered is new memory: a list stays as it was, whatever becomes of it, and so do other answers.
func TestRulesOfAnswers(t *testing.T) {
	for _, places := range sets() {
		for _, form := range forms() {
			l := in(t, places, form)
			others := []List{l, l.And(l), l.Or(List{}), l.Less(List{}), l.Slice(0, great)}
			for _, f := range forms() {
				others = append(others, must(t)(l.As(f)))
			}
			var was []int
			for _, other := range others {
				was = append(was, other.Form())
			}
			again := l.Spans()
			for _, other := range others {
				spans := other.Spans()
				_ = append(spans, api.Span{Lo: 7, Hi: 9})
				spoil(spans)
			}
			for k, other := range others {
				told(t, other, places, was[k])
			}
			if !slices.Equal(again, spansOf(places)) {
				t.Errorf("two answers share memory: %v..", short(again))
			}
		}
	}
}

// Lists that are handed in stay as they were.
func TestRulesOfLists(t *testing.T) {
	for _, a := range sets() {
		for _, b := range [][]int{nil, {3}, {3, 4, 5, 9}, from(2, 130), every(0, 3, 50), from(0, most)} {
			for listA, listB := range pairs(t, a, b) {
				formA, formB := listA.Form(), listB.Form()
				for _, call := range calls() {
					call(listA, listB)
					call(listB, listA)
				}
				listA.Slice(1, 3)
				listA.As(formB)
				if listA.Form() != formA || listB.Form() != formB || !slices.Equal(listA.Spans(), spansOf(a)) || !slices.Equal(listB.Spans(), spansOf(b)) {
					t.Errorf("lists became %v.. and %v..", short(listA.Spans()), short(listB.Spans()))
				}
			}
		}
	}
}

// No call panics, whatever it is given, and the same is answered again.
func TestAnyArguments(t *testing.T) {
	s := stir(7)
	numbers := slices.Concat(noPlaces, []int{0, 0, 0, 1, 1, 2, 2, 3, 3, 4, 5, 62, 63, 64, 65, 127, 128, 129, most - 1, most})
	number := func() int { return numbers[s.below(len(numbers))] }
	for range 5000 {
		spans := make([]api.Span, s.below(3))
		for k := range spans {
			spans[k] = api.Span{Lo: number(), Hi: number()}
		}
		form, at, count := number(), number(), number()
		l, errno := Of(spans, form)
		isForm := form >= 1 && form <= 3
		if (errno == api.OK) != (span.May(spans) && isForm) || errno != api.OK && (errno != api.ErrArg || l.Count() != 0) {
			t.Fatalf("Of(%v, %d): %d", spans, form, errno)
		}
		best, errno := Best(spans)
		if (errno == api.OK) != span.May(spans) || errno != api.OK && (errno != api.ErrArg || best.Count() != 0) {
			t.Fatalf("Best(%v): %d", spans, errno)
		}
		all, errno := All(at)
		if (errno == api.OK) != (at >= 0 && at <= most) || errno != api.OK && errno != api.ErrArg {
			t.Fatalf("All(%d): %d", at, errno)
		}
		made, errno := From([]int{at, count})
		if isPlaces := at >= 0 && at < most && count >= 0 && count < most; (errno == api.OK) != isPlaces || isPlaces && !(made.Has(at) && made.Has(count)) {
			t.Fatalf("From(%d, %d): %d", at, count, errno)
		}
		for _, one := range []List{l, best, all, made} {
			same(t, "Slice again", one.Slice(at, count), one.Slice(at, count))
			same(t, "Or again", one.Or(made), one.Or(made))
			picked, noPicked := one.Pick(at)
			if again, errno := one.Pick(at); again != picked || errno != noPicked || (noPicked == api.OK) != (at >= 0 && at < one.Count()) {
				t.Fatalf("Pick(%d): %d, %d, then %d, %d", at, picked, noPicked, again, errno)
			}
			if one.Cost(form) != one.Cost(form) || !isForm && one.Cost(form) != 0 || one.Rank(at) > one.Count() || one.Rank(at) < 0 || one.Has(at) != slices.Contains(slices.Collect(one.Slice(one.Rank(at), 1).Places()), at) {
				t.Fatalf("of %v.., at %d", short(one.Spans()), at)
			}
		}
	}
}

// Long slices end, and are refused or told.
func TestLongSlices(t *testing.T) {
	spans := make([]api.Span, 1<<20)
	for k := range spans {
		spans[k] = api.Span{Lo: 2 * k, Hi: 2*k + 1}
	}
	for _, form := range forms() {
		got, errno := Of(spans, form)
		refused(t, "Of", got, errno)
		got, errno = Of(spans[:most/2+1], form)
		refused(t, "Of", got, errno)
		told(t, must(t)(Of(spans[:most/2], form)), every(0, 2, most/2), form)
	}
	got, errno := Best(spans)
	refused(t, "Best", got, errno)
	places := slices.Repeat([]int{5, most - 1, 0}, 1<<20/3)
	toldBest(t, must(t)(From(places)), []int{0, 5, most - 1})
	got, errno = From(append(places, most))
	refused(t, "From", got, errno)
}
