package mover

import (
	"fmt"
	"peristyle/api"
	"peristyle/epoch"
	"slices"
	"testing"
)

// Gone in 3, low 3: it is left out; gone in 4: not.
func TestExample(t *testing.T) {
	merges(t, []api.Live{life(7, 1, 3), life(8, 1, 4)}, nil, 3, life(8, 1, 4))
	merges(t, nil, []api.Live{life(7, 1, 3), life(8, 1, 4)}, 3, life(8, 1, 4))
}

// Mo1: Merge

func TestMerge(t *testing.T) {
	stays, goes := life(1, 1, 0), life(2, 1, 3)
	later, last := life(3, 2, 9), life(4, 5, 0)
	for _, c := range []struct {
		a, b []api.Live
		low  int
		want []api.Live
	}{
		{nil, nil, 3, nil},
		{[]api.Live{stays}, nil, 3, []api.Live{stays}},
		{nil, []api.Live{stays}, 3, []api.Live{stays}},
		{[]api.Live{goes}, nil, 3, nil},
		{nil, []api.Live{goes}, 3, nil},
		{[]api.Live{goes}, []api.Live{goes}, 3, nil},
		{[]api.Live{goes}, []api.Live{goes}, 2, []api.Live{goes, goes}},
		{[]api.Live{stays, later}, []api.Live{last}, 3, []api.Live{stays, later, last}},
		{[]api.Live{last}, []api.Live{later, stays}, 3, []api.Live{last, later, stays}},
		{[]api.Live{goes, stays, later}, []api.Live{last}, 3, []api.Live{stays, later, last}},
		{[]api.Live{stays, goes, later}, []api.Live{last}, 3, []api.Live{stays, later, last}},
		{[]api.Live{stays, later}, []api.Live{last, goes}, 3, []api.Live{stays, later, last}},
		{[]api.Live{stays, later}, []api.Live{goes, last}, 3, []api.Live{stays, later, last}},
		{[]api.Live{goes, goes}, []api.Live{last, stays}, 3, []api.Live{last, stays}},
		{[]api.Live{last, stays}, []api.Live{goes, goes}, 3, []api.Live{last, stays}},
		{[]api.Live{stays, later}, []api.Live{goes, last}, 9, []api.Live{stays, last}},
		{[]api.Live{stays, later}, []api.Live{goes, last}, 8, []api.Live{stays, later, last}},
		{[]api.Live{stays, later}, []api.Live{goes, last}, 0, []api.Live{stays, later, goes, last}},
		{[]api.Live{stays, stays}, []api.Live{stays}, great, []api.Live{stays, stays, stays}},
	} {
		merges(t, c.a, c.b, c.low, c.want...)
		mergesAsMeant(t, c.a, c.b, c.low)
	}
}

// Each Gone with each low, in a alone, in b alone, and first, last and between others.
func TestMergeOfEdges(t *testing.T) {
	ahead, behind := life(1, 2, 0), life(3, 4, 0)
	for _, gone := range edges {
		lows := append(slices.Clone(edges), gone)
		if gone > least {
			lows = append(lows, gone-1)
		}
		if gone < great {
			lows = append(lows, gone+1)
		}
		for _, low := range lows {
			for _, born := range []int{least, -1, 0, 1, gone, top, great} {
				went := life(2, born, gone)
				alone, first, second, both := []api.Live{went}, []api.Live{went, behind}, []api.Live{ahead, went}, []api.Live{ahead, went, behind}
				if gone != 0 && gone <= low {
					alone, first, second, both = nil, []api.Live{behind}, []api.Live{ahead}, []api.Live{ahead, behind}
				}
				one := []api.Live{went}
				merges(t, one, nil, low, alone...)
				merges(t, nil, one, low, alone...)
				merges(t, one, []api.Live{behind}, low, first...)
				merges(t, []api.Live{went, behind}, nil, low, first...)
				merges(t, []api.Live{ahead}, one, low, second...)
				merges(t, nil, []api.Live{ahead, went}, low, second...)
				merges(t, []api.Live{ahead, went, behind}, nil, low, both...)
				merges(t, []api.Live{ahead, went}, []api.Live{behind}, low, both...)
				merges(t, []api.Live{ahead}, []api.Live{went, behind}, low, both...)
				merges(t, nil, []api.Live{ahead, went, behind}, low, both...)
			}
		}
	}
}

// All short lists of lives that went around some lows, or did not.
func TestMergeOfShortLists(t *testing.T) {
	lists := [][]api.Live{nil}
	for first := 0; first < len(lists); first++ {
		for gone := -1; gone <= 3 && len(lists[first]) < 3; gone++ {
			lists = append(lists, append(slices.Clone(lists[first]), life(10*first+gone, first%3, gone)))
		}
	}
	for _, a := range lists {
		for _, b := range lists {
			for low := -2; low <= 3; low++ {
				mergesAsMeant(t, a, b, low)
			}
		}
	}
}

// How many lives there are, and which of them stay, is all the same to each one.
func TestMergeOfMany(t *testing.T) {
	const low = 10
	went := map[string]func(at, count int) int{
		"none went":            func(_, _ int) int { return 0 },
		"all went":             func(at, _ int) int { return 1 + at%low },
		"all later":            func(at, _ int) int { return low + 1 + at%low },
		"the first":            func(at, _ int) int { return max(0, low-at*low) },
		"all but the first":    func(at, _ int) int { return min(at, 1) * low },
		"the last":             func(at, count int) int { return max(0, low-(count-1-at)*low) },
		"all but the last":     func(at, count int) int { return min(count-1-at, 1) },
		"one between":          func(at, count int) int { return max(0, 1-max(at-count/2, count/2-at)) },
		"each second":          func(at, _ int) int { return at % 2 * low },
		"below 0, at it, low":  func(at, _ int) int { return []int{-1, 0, low, low + 1, low - 1}[at%5] },
		"around, in any order": func(at, _ int) int { return at * 7919 % (2*low + 1) },
	}
	for what, gone := range went {
		for _, count := range sizes {
			l := livesGone(count, func(at int) int { return gone(at, count) })
			others := livesGone(5, func(at int) int { return at * 5 })
			for _, b := range [][]api.Live{nil, others, l} {
				stay := mergesAsMeant(t, l, b, low) + mergesAsMeant(t, b, l, low)
				if what == "all went" && len(b) == 0 && stay != 0 || what == "none went" && len(b) == 0 && stay != 2*count {
					t.Errorf("%s, of %d: %d", what, count, stay)
				}
			}
		}
	}
}

// All of a are left out, or all of b.
func TestMergeOfOneAlone(t *testing.T) {
	for _, count := range sizes {
		went := livesGone(count, func(at int) int { return 1 + at%4 })
		stay := livesGone(count, func(at int) int { return at % 2 * 9 })
		merges(t, went, stay, 4, stay...)
		merges(t, stay, went, 4, stay...)
		merges(t, went, went, 4)
		merges(t, stay, stay, 4, slices.Concat(stay, stay)...)
	}
}

// What stays is as it was: cells that may not be, rows of unlike lengths, whatever epochs.
func TestMergeKeepsLives(t *testing.T) {
	var a, b []api.Live
	for k, row := range anyRows() {
		for _, born := range edges {
			a = append(a, api.Live{Row: row, Born: born, Gone: edges[(k+5)%len(edges)]})
			b = append(b, api.Live{Row: row, Born: born})
		}
	}
	for _, low := range edges {
		mergesAsMeant(t, a, b, low)
		mergesAsMeant(t, b, a, low)
	}
	merges(t, a, b, least, slices.Concat(slices.DeleteFunc(slices.Clone(a), func(l api.Live) bool { return l.Gone == least }), b)...)
	s := stir(1)
	for range 2000 {
		mergesAsMeant(t, s.oddLives(s.below(9)), s.oddLives(s.below(9)), one(s, edges))
	}
}

// Mo1: Vectors

func TestVectors(t *testing.T) {
	hasVectors(t, nil, nil, nil, nil)
	hasVectors(t, []api.Live{life(7, 3, 0)}, []api.Row{nums(7)}, runsOf(3), nil)
	hasVectors(t, []api.Live{life(7, 3, 5)}, []api.Row{nums(7)}, []api.Run{{Val: 3, Count: 1}}, []api.Mark{{At: 0, Gone: 5}})
	hasVectors(t, []api.Live{life(7, 3, 5), life(6, 3, 0), life(5, 1, 4), life(4, 3, 1)}, []api.Row{nums(7), nums(6), nums(5), nums(4)}, []api.Run{{Val: 3, Count: 2}, {Val: 1, First: 2, Count: 1}, {Val: 3, First: 3, Count: 1}}, []api.Mark{{At: 0, Gone: 5}, {At: 2, Gone: 4}, {At: 3, Gone: 1}})
	hasVectors(t, []api.Live{life(7, -3, -5), life(6, 0, 0)}, []api.Row{nums(7), nums(6)}, []api.Run{{Val: -3, Count: 1}, {Val: 0, First: 1, Count: 1}}, []api.Mark{{At: 0, Gone: -5}})
	hasVectors(t, []api.Live{{}, {}}, []api.Row{nil, nil}, []api.Run{{Val: 0, Count: 2}}, nil)
	hasVectors(t, make([]api.Live, places), make([]api.Row, places), []api.Run{{Val: 0, Count: places}}, nil)
}

// All short lists of few epochs.
func TestVectorsOfShortLists(t *testing.T) {
	lists := [][]api.Live{nil}
	for first := 0; first < len(lists); first++ {
		vectorsAsMeant(t, lists[first])
		for born := -1; born <= 2 && len(lists[first]) < 4; born++ {
			for gone := -1; gone <= 1; gone++ {
				lists = append(lists, append(slices.Clone(lists[first]), life(first, born, gone)))
			}
		}
	}
}

// The births, by each way in which rows may have come.
func TestVectorsOfBirths(t *testing.T) {
	for _, count := range append(smallSizes, sizes...) {
		for what, born := range map[string]func(at int) int{
			"all alike":      func(int) int { return 5 },
			"all 0":          func(int) int { return 0 },
			"all below 0":    func(int) int { return least },
			"all different":  func(at int) int { return at },
			"falling":        func(at int) int { return top - at },
			"from below 0":   func(at int) int { return at - count/2 },
			"in turn":        func(at int) int { return at % 2 },
			"in runs of 64":  func(at int) int { return at / 64 },
			"in longer runs": func(at int) int { return 7 - at/1000%3 },
			"the first":      func(at int) int { return min(at, 1) },
			"the last":       func(at int) int { return max(0, at+2-count) },
			"the edges":      func(at int) int { return edges[at%len(edges)] },
			"around a bit":   func(at int) int { return at % 3 << 32 },
		} {
			l := livesBorn(count, born)
			vectorsAsMeant(t, l)
			_, runs, _ := Vectors(l)
			if want := count <= numbers; (len(runs) > 0) != (want && count > 0) || !areRuns(runs) {
				t.Errorf("%d, %s: %v..", count, what, short(runs))
			}
		}
	}
}

// The marks, of each row that went: also where no marks may be, and of numbers that are no epochs.
func TestVectorsOfMarks(t *testing.T) {
	for _, count := range append(smallSizes, sizes...) {
		for what, c := range map[string]struct {
			gone func(at int) int
			many int
		}{
			"none":        {func(int) int { return 0 }, 0},
			"all":         {func(at int) int { return 1 + at }, count},
			"below 0":     {func(at int) int { return -1 - at }, count},
			"all alike":   {func(int) int { return 3 }, count},
			"the least":   {func(int) int { return least }, count},
			"the first":   {func(at int) int { return max(0, 1-at) }, min(count, 1)},
			"the last":    {func(at int) int { return max(0, at+2-count) }, min(count, 1)},
			"each second": {func(at int) int { return at % 2 * top }, count / 2},
			"like 0":      {func(at int) int { return (1 + at%2) << 32 }, count},
		} {
			l := livesGone(count, c.gone)
			vectorsAsMeant(t, l)
			if _, _, marks := Vectors(l); len(marks) != c.many {
				t.Errorf("%d, %s: %d marks", count, what, len(marks))
			}
		}
		for k := range count {
			if k < 3 || k > count-3 || k == places-1 || k == places || k == count/2 {
				hasVectors(t, livesGone(count, func(at int) int { return max(0, 1-max(at-k, k-at)) }), ones(count), runsOf(bornOf(count)...), []api.Mark{{At: k, Gone: 1}})
			}
		}
	}
	for _, gone := range edges {
		l := []api.Live{life(1, 1, 0), life(2, 1, gone), life(3, 1, 0)}
		vectorsAsMeant(t, l)
		vectorsAsMeant(t, l[1:2])
	}
}

// bornOf are the epochs in which the lives of livesGone came.
func bornOf(count int) []int {
	l := make([]int, count)
	for k := range l {
		l[k] = 1 + k%5
	}
	return l
}

// Of more lives than layer 10 has numbers for there are no births, but rows, and marks, all the same.
func TestVectorsOfTooMany(t *testing.T) {
	for _, count := range []int{numbers + 1, numbers + 2, 2 * numbers, 2*numbers + 1} {
		l := livesGone(count, func(at int) int { return at % 3 })
		rows, born, marks := Vectors(l)
		if !sameRows(rows, ones(count)) || len(born) != 0 || len(marks) != count-(count+2)/3 || marks[len(marks)-1].At < count-2 {
			t.Errorf("%d: %d rows, %d births, %d marks", count, len(rows), len(born), len(marks))
		}
		vectorsAsMeant(t, l)
		vectorsAsMeant(t, livesBorn(count, func(int) int { return 1 }))
	}
	rows, born, marks := Vectors(livesGone(numbers, func(at int) int { return 1 }))
	if len(rows) != numbers || !slices.Equal(born, runsOf(bornOf(numbers)...)) || len(born) != numbers || len(marks) != numbers {
		t.Errorf("%d rows, %d births, %d marks", len(rows), len(born), len(marks))
	}
}

func TestVectorsOfAnyRows(t *testing.T) {
	var l []api.Live
	for k, row := range anyRows() {
		l = append(l, api.Live{Row: row, Born: k / 3, Gone: k % 2})
		vectorsAsMeant(t, l)
		vectorsAsMeant(t, l[k:])
	}
	s := stir(2)
	for range 2000 {
		vectorsAsMeant(t, s.oddLives(s.below(40)))
		vectorsAsMeant(t, s.lives(s.below(40), 5))
	}
}

// Mo1: Lives

func TestLives(t *testing.T) {
	rows := ones(4)
	hasLives(t, nil, nil, nil)
	hasLives(t, rows[:1], runsOf(5), nil, life(0, 5, 0))
	hasLives(t, rows[:1], runsOf(5), []api.Mark{{At: 0, Gone: 7}}, life(0, 5, 7))
	hasLives(t, rows, runsOf(5, 5, 3, 5), nil, life(0, 5, 0), life(1, 5, 0), life(2, 3, 0), life(3, 5, 0))
	hasLives(t, rows, runsOf(5, 5, 3, 5), []api.Mark{{At: 1, Gone: 9}, {At: 3, Gone: 2}}, life(0, 5, 0), life(1, 5, 9), life(2, 3, 0), life(3, 5, 2))
	hasLives(t, rows, runsOf(1, 1, 1, 1), []api.Mark{{At: 0, Gone: top}, {At: 1, Gone: 1}, {At: 2, Gone: 2}, {At: 3, Gone: 3}}, life(0, 1, top), life(1, 1, 1), life(2, 1, 2), life(3, 1, 3))
	hasLives(t, rows, runsOf(least, 0, -1, great), []api.Mark{{At: 2, Gone: 1}}, life(0, least, 0), life(1, 0, 0), life(2, -1, 1), life(3, great, 0))
}

// Births may have any numbers.
func TestLivesOfAnyBirths(t *testing.T) {
	for _, val := range edges {
		for _, other := range edges {
			for _, count := range []int{1, 2, 3, 64} {
				vals := slices.Repeat([]int{val}, count)
				hasLives(t, ones(count), runsOf(vals...), nil, livesBorn(count, func(int) int { return val })...)
				for _, at := range []int{0, count / 2, count - 1} {
					hasLives(t, ones(count), runsOf(with(vals, at, other)...), nil, with(livesBorn(count, func(int) int { return val }), at, life(at, other, 0))...)
				}
			}
		}
	}
	for _, count := range []int{places - 1, places, places + 1, numbers - 1, numbers} {
		l := livesBorn(count, func(at int) int { return edges[at%len(edges)] })
		rows, born, _ := vectorsOf(l)
		hasLives(t, rows, born, nil, l...)
	}
}

// Of as many births as rows there are lives, however many: also more than marks may be of.
func TestLivesOfMany(t *testing.T) {
	s := stir(3)
	for _, count := range sizes {
		for _, vals := range [][]int{make([]int, count), from(0, count), reversed(from(0, count)), s.vals(count, top), bornOf(count)} {
			var all []api.Mark
			for at := range min(count, places) {
				all = append(all, api.Mark{At: at, Gone: 1 + at*at%top})
			}
			lists := [][]api.Mark{nil, all, s.marks(count, top), s.marks(count, 3)}
			if count > 0 {
				lists = append(lists, all[:1], all[len(all)-1:], all[len(all)/2:len(all)/2+1], all[1:], all[:len(all)-1])
			}
			for _, marks := range lists {
				if ok := livesAsMeant(t, ones(count), runsOf(vals...), marks); ok != (count <= numbers) {
					t.Errorf("of %d rows: %t", count, ok)
				}
			}
		}
	}
	// No runs are of so many numbers: neither are none, nor as many as may be, nor those that are too many together.
	for _, born := range [][]api.Run{nil, {{Val: 1, Count: numbers + 1}}, {{Val: 1, Count: numbers}}, {{Val: 1, Count: numbers}, {Val: 2, First: numbers, Count: 1}}, {{Val: 1, Count: 1}, {Val: 2, First: 1, Count: numbers}}} {
		noLives(t, ones(numbers+1), born, nil)
		noLives(t, ones(numbers+1), born, []api.Mark{{At: 0, Gone: 1}})
	}
}

// One number fewer than rows, one more, none beside rows, some beside none.
func TestLivesOfUnlikeMany(t *testing.T) {
	for _, count := range append(smallSizes, sizes...) {
		rows := ones(count)
		for _, other := range []int{0, 1, count - 2, count - 1, count + 1, count + 2, 2 * count, 64, places, numbers} {
			if other == count || other < 0 {
				continue
			}
			for _, vals := range [][]int{make([]int, other), from(0, other), bornOf(other)} {
				noLives(t, rows, runsOf(vals...), nil)
				noLives(t, rows, runsOf(vals...), []api.Mark{{At: 0, Gone: 1}})
			}
		}
		if count > 0 && count <= numbers {
			noLives(t, rows, nil, nil)
			noLives(t, nil, runsOf(from(0, count)...), nil)
			noLives(t, rows, []api.Run{}, []api.Mark{{At: count - 1, Gone: 1}})
		}
	}
}

// Births that may not be, beside marks that may be, and without any.
func TestLivesOfWrongBirths(t *testing.T) {
	for _, count := range []int{4, 5, 64, places - 1, places, places + 1, numbers - 1, numbers} {
		rows := ones(count)
		for _, born := range wrongRuns(count) {
			if areRuns(born) {
				t.Fatalf("%v may be", born)
			}
			noLives(t, rows, born, nil)
			noLives(t, rows, born, []api.Mark{{At: 0, Gone: 1}, {At: 3, Gone: top}})
			noLives(t, nil, born, nil)
		}
	}
	// The last run of many.
	for _, last := range []api.Run{{Val: -1, First: 62, Count: 1}, {Val: -1, First: 64, Count: 1}, {Val: -1, First: 63}, {Val: -1, First: 63, Count: -1}, {Val: -1, First: 63, Count: 2}, {Val: 62, First: 63, Count: 1}, {Val: -1, First: 63, Count: great}} {
		noLives(t, ones(64), with(runsOf(from(0, 64)...), 63, last), nil)
	}
	hasLives(t, ones(64), with(runsOf(from(0, 64)...), 63, api.Run{Val: -1, First: 63, Count: 1}), nil, with(livesBorn(64, func(at int) int { return at }), 63, life(63, -1, 0))...)
}

// Each fault in the first run, in one between, and in the last one.
func TestLivesOfWrongRuns(t *testing.T) {
	for _, count := range []int{4, 5, 64, places, numbers} {
		rows := ones(count)
		right := []api.Run{{Val: 1, Count: 1}, {Val: 2, First: 1, Count: count - 2}, {Val: 1, First: count - 1, Count: 1}}
		livesAsMeant(t, rows, right, nil)
		for at, run := range right {
			for _, first := range []int{run.First - 1, run.First + 1, -1, least, great, run.First + 1<<32, ^run.First} {
				noLives(t, rows, with(right, at, api.Run{Val: run.Val, First: first, Count: run.Count}), nil)
			}
			for _, many := range []int{0, -1, -run.Count, run.Count + 1, run.Count + 1<<32, numbers, numbers + 1, least, great} {
				noLives(t, rows, with(right, at, api.Run{Val: run.Val, First: run.First, Count: many}), nil)
			}
			if at > 0 {
				noLives(t, rows, with(right, at, api.Run{Val: right[at-1].Val, First: run.First, Count: run.Count}), nil)
			}
			noLives(t, rows, slices.Delete(slices.Clone(right), at, at+1), nil)
			noLives(t, rows, slices.Insert(slices.Clone(right), at, api.Run{Val: 3, First: run.First}), nil)
			noLives(t, rows, slices.Insert(slices.Clone(right), at, run), nil)
		}
	}
}

// Marks that may not be, beside births that may be.
func TestLivesOfWrongMarks(t *testing.T) {
	for _, count := range []int{4, 5, 64, places - 1, places, places + 1, places + 2, 2*places + 1, numbers} {
		rows, born := ones(count), runsOf(bornOf(count)...)
		for _, marks := range wrongMarks() {
			if areMarks(marks) {
				t.Fatalf("%v may be", marks)
			}
			noLives(t, rows, born, marks)
		}
		for _, gone := range []int{1, 2, top - 1, top} {
			hasLives(t, rows, born, []api.Mark{{At: 3, Gone: gone}}, with(livesGone(count, func(int) int { return 0 }), 3, life(3, 4, gone))...)
		}
	}
	// The last mark of as many as may be, and one more.
	var all []api.Mark
	for at := range places {
		all = append(all, api.Mark{At: at, Gone: 1 + at})
	}
	for _, count := range []int{places, places + 1, numbers} {
		rows, born := ones(count), []api.Run{{Val: 1, Count: count}}
		for _, last := range []api.Mark{{At: places - 2, Gone: 1}, {At: places - 1}, {At: places - 1, Gone: -1}, {At: places - 1, Gone: top + 1}, {At: places, Gone: 1}, {At: 0, Gone: 1}} {
			noLives(t, rows, born, with(all, places-1, last))
		}
		noLives(t, rows, born, append(slices.Clone(all), api.Mark{At: places, Gone: 1}))
		noLives(t, rows, born, append(slices.Clone(all), api.Mark{At: places - 1, Gone: 1}))
		livesAsMeant(t, rows, born, all)
	}
}

// An At of the last row, of one behind it, of no rows.
func TestLivesOfMarksBeyond(t *testing.T) {
	for _, count := range append(smallSizes, sizes[:9]...) {
		rows, born := ones(count), runsOf(make([]int, count)...)
		for _, at := range []int{0, count - 2, count - 1, count, count + 1, places - 1, places, places + 1, numbers - 1, numbers} {
			if at < 0 {
				continue
			}
			mark := api.Mark{At: at, Gone: 3}
			want := at < count && at < places
			if ok := livesAsMeant(t, rows, born, []api.Mark{mark}); ok != want {
				t.Errorf("At %d of %d rows: %t", at, count, ok)
			}
			if at > 1 {
				livesAsMeant(t, rows, born, []api.Mark{{At: 0, Gone: 1}, mark})
				livesAsMeant(t, rows, born, []api.Mark{{At: 0, Gone: 1}, {At: 1, Gone: 1}, mark})
			}
		}
		if count >= 2 && count < places {
			noLives(t, rows, born, []api.Mark{{At: count - 1, Gone: 1}, {At: count, Gone: 1}})
			noLives(t, rows, born, []api.Mark{{At: 0, Gone: 1}, {At: count, Gone: 1}, {At: places - 1, Gone: 1}})
			noLives(t, rows, born, []api.Mark{{At: 0, Gone: 1}, {At: places - 1, Gone: 1}})
		}
	}
	for _, rows := range [][]api.Row{nil, {}} {
		for _, at := range []int{0, 1, places - 1} {
			noLives(t, rows, nil, []api.Mark{{At: at, Gone: 1}})
		}
	}
}

// Two faults at once.
func TestLivesOfTwoFaults(t *testing.T) {
	rows := ones(4)
	for _, born := range append(wrongRuns(4), nil, runsOf(1), runsOf(1, 2, 3), runsOf(1, 1, 1, 1, 1), []api.Run{{Val: 1, Count: numbers}}) {
		for _, marks := range append(wrongMarks(), []api.Mark{{At: 4, Gone: 1}}, []api.Mark{{At: 0, Gone: 1}, {At: 5, Gone: 1}}) {
			noLives(t, rows, born, marks)
			noLives(t, nil, born, marks)
		}
	}
}

// All short births and marks of all few rows.
func TestLivesOfShortLists(t *testing.T) {
	births, marks := [][]api.Run{nil}, [][]api.Mark{nil}
	for first := 0; first < len(births); first++ {
		for k := 0; k < 2*4*4 && len(births[first]) < 2; k++ {
			births = append(births, append(slices.Clone(births[first]), api.Run{Val: k % 2, First: k/2%4 - 1, Count: k / 8}))
		}
	}
	for first := 0; first < len(marks); first++ {
		for k := 0; k < 5*2 && len(marks[first]) < 2; k++ {
			marks = append(marks, append(slices.Clone(marks[first]), api.Mark{At: k/2 - 1, Gone: k % 2}))
		}
	}
	some := 0
	for count := range 5 {
		rows := ones(count)
		for _, born := range births {
			for _, list := range marks {
				if livesAsMeant(t, rows, born, list) {
					some++
				}
			}
		}
	}
	// Of 0 to 4 rows: how many births there are of these runs, and how many marks.
	if want := 1*1 + 2*2 + 4*4 + 6*7 + 4*11; some != want {
		t.Errorf("%d may be, not %d", some, want)
	}
}

func TestLivesOfAnyRows(t *testing.T) {
	rows := anyRows()
	var l []api.Live
	for k, row := range rows {
		l = append(l, api.Live{Row: row, Born: k, Gone: k % 2})
		_, born, marks := vectorsOf(l)
		hasLives(t, rows[:k+1], born, marks, l...)
	}
	s := stir(4)
	for range 3000 {
		count := s.below(40)
		livesAsMeant(t, s.rows(count), runsOf(s.vals(count, 5)...), s.marks(count+s.below(2), 9))
	}
}

// Mo2: Project

func TestProject(t *testing.T) {
	rows := []api.Row{{num(1), txt("a"), {}}, {num(2), {}, txt("b")}}
	projects(t, rows, []int{0}, nums(1), nums(2))
	projects(t, rows, []int{1}, api.Row{txt("a")}, api.Row{{}})
	projects(t, rows, []int{2, 0}, api.Row{{}, num(1)}, api.Row{txt("b"), num(2)})
	projects(t, rows, []int{0, 1, 2}, rows...)
	projects(t, rows, []int{2, 1, 0}, api.Row{{}, txt("a"), num(1)}, api.Row{txt("b"), {}, num(2)})
	projects(t, rows, []int{1, 1, 1}, api.Row{txt("a"), txt("a"), txt("a")}, make(api.Row, 3))
	projects(t, rows, []int{0, 2, 0, 2}, api.Row{num(1), {}, num(1), {}}, api.Row{num(2), txt("b"), num(2), txt("b")})
	projects(t, rows, nil, nil, nil)
	projects(t, nil, nil)
	projects(t, nil, []int{0, 5})
	projectsNot(t, rows, []int{3})
	projectsNot(t, rows, []int{-1})
	projectsNot(t, nil, []int{-1})
}

// Each number that is no column, at each place; and those that are.
func TestProjectOfEdges(t *testing.T) {
	for _, cells := range []int{1, 2, 8, 9, 300} {
		row := nums(from(100, 100+cells)...)
		for _, count := range []int{1, 2, 3, 64} {
			rows := slices.Repeat([]api.Row{row}, count)
			for _, right := range [][]int{{0}, {cells - 1}, {0, cells - 1}, {cells - 1, 0, cells / 2}, {0, 0, 0}, reversed(from(0, cells))} {
				if !projectsAsMeant(t, rows, right) {
					t.Errorf("%d of %d cells are none", short(right), cells)
				}
				for _, wrong := range []int{-1, -2, -cells, -1 << 32, least, least + 1, cells, cells + 1, 1 << 32, 1<<32 + 1, great - 1, great} {
					projectsNot(t, rows, []int{wrong})
					projectsNot(t, rows, append([]int{wrong}, right...))
					projectsNot(t, rows, append(slices.Clone(right), wrong))
					for at := range min(len(right), 10) {
						projectsNot(t, rows, with(right, at, wrong))
					}
					if wrong < 0 {
						projectsNot(t, nil, append(slices.Clone(right), wrong))
						projectsNot(t, nil, append([]int{wrong}, right...))
					} else {
						projects(t, nil, append(slices.Clone(right), wrong))
					}
				}
			}
		}
	}
}

// Beside no rows a column below 0 alone is refused.
func TestProjectOfNoRows(t *testing.T) {
	for _, rows := range [][]api.Row{nil, {}} {
		for _, col := range append(slices.Clone(edges), 7, 8, 9, 255, 1<<62) {
			for _, cols := range [][]int{{col}, {col, 0}, {0, col}, {0, great, col}, {great, col, great}} {
				if ok := projectsAsMeant(t, rows, cols); ok != (col >= 0) {
					t.Errorf("Project of no rows, %d: %t", cols, ok)
				}
			}
		}
		projects(t, rows, nil)
		projects(t, rows, from(0, 300))
	}
}

// Of no columns there are as many rows, without cells.
func TestProjectOfNoColumns(t *testing.T) {
	for _, count := range sizes {
		for _, cols := range [][]int{nil, {}} {
			projects(t, ones(count), cols, make([]api.Row, count)...)
			projects(t, make([]api.Row, count), cols, make([]api.Row, count)...)
		}
	}
}

// The first row, one between, or the last one alone has not the column.
func TestProjectOfUnlikeRows(t *testing.T) {
	for _, count := range []int{1, 2, 3, 64, places, places + 1, numbers + 1} {
		for _, cells := range []int{1, 2, 8, 9} {
			rows := make([]api.Row, count)
			for k := range rows {
				rows[k] = nums(from(k, k+cells+k%3)...)
			}
			for _, at := range []int{0, count / 2, count - 1} {
				for _, fewer := range []api.Row{nil, {}, nums(from(0, cells-1)...)} {
					other := with(rows, at, fewer)
					projectsNot(t, other, []int{cells - 1})
					projectsNot(t, other, append(from(0, cells), 0))
					projectsNot(t, other, reversed(from(0, cells)))
					if len(fewer) > 0 {
						projectsAsMeant(t, other, []int{len(fewer) - 1})
					}
				}
				if !projectsAsMeant(t, rows, []int{cells - 1}) || !projectsAsMeant(t, rows, from(0, cells)) || projectsAsMeant(t, rows, []int{cells}) {
					t.Errorf("of rows of %d cells", cells)
				}
			}
		}
	}
	projects(t, []api.Row{nums(1), nums(2, 3), nums(4, 5, 6)}, []int{0}, nums(1), nums(2), nums(4))
}

// All rows of few cells, with all short lists of columns.
func TestProjectOfShortLists(t *testing.T) {
	rows, cols := [][]api.Row{nil}, [][]int{nil}
	for first := 0; first < len(rows); first++ {
		for cells := 0; cells <= 3 && len(rows[first]) < 3; cells++ {
			rows = append(rows, append(slices.Clone(rows[first]), nums(from(first, first+cells)...)))
		}
	}
	for first := 0; first < len(cols); first++ {
		for col := -1; col <= 3 && len(cols[first]) < 4; col++ {
			cols = append(cols, append(slices.Clone(cols[first]), col))
		}
	}
	for _, list := range rows {
		for _, some := range cols {
			projectsAsMeant(t, list, some)
		}
	}
}

// The cells are as they were: those that may not be, and those of long rows.
func TestProjectOfAnyRows(t *testing.T) {
	for _, row := range anyRows() {
		for _, count := range []int{1, 3} {
			rows := slices.Repeat([]api.Row{row}, count)
			projectsAsMeant(t, rows, from(0, len(row)))
			projectsAsMeant(t, rows, reversed(from(0, len(row))))
			projectsNot(t, rows, from(0, len(row)+1))
			for col := range min(len(row), 10) {
				projects(t, rows, []int{col}, slices.Repeat([]api.Row{{row[col]}}, count)...)
			}
		}
	}
	wide := nums(from(0, numbers+1)...)
	projects(t, []api.Row{wide, wide}, []int{numbers, 0, numbers - 1}, nums(numbers, 0, numbers-1), nums(numbers, 0, numbers-1))
	projects(t, []api.Row{wide}, from(0, numbers+1), wide)
	projectsNot(t, []api.Row{wide, wide[1:]}, []int{numbers})
	s := stir(5)
	for range 3000 {
		var cols []int
		for range s.below(4) {
			cols = append(cols, s.below(5)-s.below(2)*s.below(2))
		}
		projectsAsMeant(t, s.rows(s.below(5)), cols)
	}
}

func TestProjectOfMany(t *testing.T) {
	for _, count := range sizes {
		rows := make([]api.Row, count)
		for k := range rows {
			rows[k] = api.Row{num(k), txt(fmt.Sprint(k)), {}, num(-k)}
		}
		for _, cols := range [][]int{{0}, {3, 1}, {0, 1, 2, 3}, {3, 3, 3, 3, 3, 3, 3, 3, 3}} {
			if !projectsAsMeant(t, rows, cols) {
				t.Errorf("%d of %d rows", cols, count)
			}
		}
		if ok := projectsAsMeant(t, rows, []int{0, 4}); ok != (count == 0) {
			t.Errorf("column 4 of %d rows: %t", count, ok)
		}
	}
}

// Mo2: Kinds

// tableOf is a table of these kinds.
func tableOf(kinds ...int) api.Table {
	t := api.Table{Name: "t"}
	for k, kind := range kinds {
		t.Columns = append(t.Columns, api.Column{Name: fmt.Sprintf("c%d", k), Kind: kind, Null: k%2 == 1})
	}
	return t
}

// by is a projection of these columns.
func by(cols ...int) api.Projection { return api.Projection{Name: "p", Cols: cols} }

func TestKinds(t *testing.T) {
	table := tableOf(api.Int, api.Text, api.Int, api.Text)
	kindsAre(t, table, by())
	kindsAre(t, table, by(0), api.Int)
	kindsAre(t, table, by(1), api.Text)
	kindsAre(t, table, by(3, 2), api.Text, api.Int)
	kindsAre(t, table, by(0, 1, 2, 3), api.Int, api.Text, api.Int, api.Text)
	kindsAre(t, table, by(3, 2, 1, 0), api.Text, api.Int, api.Text, api.Int)
	kindsAre(t, table, by(1, 1), api.Text, api.Text)
	kindsAre(t, table, by(0, 3, 0, 3, 0), api.Int, api.Text, api.Int, api.Text, api.Int)
	noKinds(t, table, by(4))
	noKinds(t, table, by(-1))
	kindsAre(t, tableOf(), by())
	noKinds(t, tableOf(), by(0))
}

// Each number that is no column, at each place.
func TestKindsOfEdges(t *testing.T) {
	for _, count := range []int{0, 1, 2, 3, 8, 9, 300} {
		var kinds []int
		for k := range count {
			kinds = append(kinds, 1+k%2)
		}
		table := tableOf(kinds...)
		lists := [][]int{{}, from(0, count), reversed(from(0, count))}
		if count > 0 {
			lists = append(lists, []int{0}, []int{count - 1}, []int{0, 0}, []int{count - 1, count / 2, 0}, slices.Repeat([]int{count / 2}, 10))
		}
		for _, right := range lists {
			if !kindsAsMeant(t, table, by(right...)) {
				t.Errorf("%d of %d columns are none", short(right), count)
			}
			for _, wrong := range []int{-1, -2, -count - 1, -1 << 32, least, least + 1, count, count + 1, 1 << 32, 1<<32 + 1, great - 1, great} {
				noKinds(t, table, by(wrong))
				noKinds(t, table, by(append([]int{wrong}, right...)...))
				noKinds(t, table, by(append(slices.Clone(right), wrong)...))
				for at := range min(len(right), 10) {
					noKinds(t, table, by(with(right, at, wrong)...))
				}
			}
		}
	}
}

// All short lists of columns of all small tables, of kinds that are, or are none.
func TestKindsOfShortLists(t *testing.T) {
	tables, cols := [][]int{nil}, [][]int{nil}
	for first := 0; first < len(tables); first++ {
		for kind := -1; kind <= 3 && len(tables[first]) < 3; kind++ {
			tables = append(tables, append(slices.Clone(tables[first]), kind))
		}
	}
	for first := 0; first < len(cols); first++ {
		for col := -1; col <= 3 && len(cols[first]) < 4; col++ {
			cols = append(cols, append(slices.Clone(cols[first]), col))
		}
	}
	for _, kinds := range tables {
		for _, some := range cols {
			kindsAsMeant(t, tableOf(kinds...), by(some...))
		}
	}
}

// Of tables and projections that may not be there are kinds, too.
func TestKindsOfWhatMayNotBe(t *testing.T) {
	right := tableOf(api.Int, api.Text)
	for _, p := range []api.Projection{{Cols: []int{1}}, {Name: "A b", Cols: []int{1}}, {Name: "p", Cols: []int{1}, Keys: -1}, {Name: "p", Cols: []int{1}, Keys: 2}, {Name: "p", Cols: []int{1}, Keys: least}, {Name: "p", Cols: []int{1}, Keys: great}} {
		kindsAre(t, right, p, api.Text)
		p.Cols = []int{1, 1, 0, 1}
		kindsAre(t, right, p, api.Text, api.Text, api.Int, api.Text)
		p.Cols = nil
		kindsAre(t, right, p)
	}
	for _, name := range []string{"", "A", "1", "t t", "abcdefghijklmnopq", "\x00"} {
		table := tableOf(api.Text, api.Int)
		table.Name, table.Columns[0].Name, table.Columns[1].Name = name, name, name
		table.Projections = []api.Projection{{}, {Name: "p", Cols: []int{-1, 5}}}
		kindsAre(t, table, by(1, 0), api.Int, api.Text)
		noKinds(t, table, by(2))
	}
	odd := []int{api.Null, 3, -1, 256, 257, 1 << 32, 1<<32 + 1, least, great}
	kindsAre(t, tableOf(odd...), by(from(0, len(odd))...), odd...)
	kindsAre(t, tableOf(odd...), by(8, 0), great, api.Null)
}

// R3, R4

// behind is a list with others in the room behind its end, and tells whether all that is as it was.
func behind[T any](l, others []T, same func(a, b []T) bool) ([]T, func() bool) {
	whole := slices.Concat(l, others)
	kept := slices.Clone(whole)
	return whole[:len(l)], func() bool { return same(whole, kept) }
}

// deep are rows, with cells of their own.
func deep(rows []api.Row) []api.Row {
	made := slices.Clone(rows)
	for k := range made {
		made[k] = slices.Clone(made[k])
	}
	return made
}

// deepLives are lives, likewise.
func deepLives(l []api.Live) []api.Live {
	made := slices.Clone(l)
	for k := range made {
		made[k].Row = slices.Clone(made[k].Row)
	}
	return made
}

// given is what all calls are given, each list with others in the room behind its end.
type given struct {
	a, b  []api.Live
	rows  []api.Row
	born  []api.Run
	marks []api.Mark
	cols  []int
	table api.Table
	p     api.Projection
	same  func() bool // whether all that is as it was
}

// roomyRow is a row, with cells in the room behind its end.
func roomyRow(r api.Row) api.Row {
	whole := slices.Concat(r, api.Row{{N: 9}, num(-9)})
	return whole[:len(r)]
}

// givenOf is what may be given, of so many lives, each row with at least two cells.
func givenOf(s *stirrer, count int) given {
	var g given
	lives := func() []api.Live {
		l := s.lives(count, 9)
		for k := range l {
			l[k].Row = roomyRow(append(nums(k, -k), l[k].Row...))
		}
		return l
	}
	others := []api.Live{{Row: api.Row{{N: 5}}, Born: -1, Gone: 1}, {Born: 3, Gone: -3}}
	var sames [9]func() bool
	wholeRows := func(rows []api.Row) []api.Row {
		made := deep(rows)
		for k, row := range rows {
			made[k] = slices.Clone(row[:cap(row)])
		}
		return made
	}
	g.a, sames[0] = behind(lives(), others, sameLives)
	g.b, sames[1] = behind(lives(), others, sameLives)
	rows, born, marks := vectorsOf(lives())
	g.rows, sames[2] = behind(rows, []api.Row{{{N: 5}}, nil, nums(1, 2)}, sameRows)
	g.born, sames[3] = behind(born, []api.Run{{Val: -7, First: -7, Count: -7}, {}}, slices.Equal[[]api.Run])
	g.marks, sames[4] = behind(marks, []api.Mark{{At: -7, Gone: -7}, {}}, slices.Equal[[]api.Mark])
	g.cols, sames[5] = behind([]int{1, 0, 1}, []int{-7, great, 0}, slices.Equal[[]int])
	g.table = tableOf(api.Int, api.Text)
	g.table.Columns, sames[6] = behind(g.table.Columns, []api.Column{{Name: "x", Kind: 7}, {}}, slices.Equal[[]api.Column])
	g.p.Cols, sames[7] = behind([]int{1, 1, 0}, []int{-7, great, 0}, slices.Equal[[]int])
	all := func() []api.Row {
		var l []api.Row
		for _, one := range slices.Concat(g.a, g.b) {
			l = append(l, one.Row)
		}
		return wholeRows(append(l, g.rows...))
	}
	kept := all()
	sames[8] = func() bool { return sameRows(all(), kept) }
	g.same = func() bool {
		return !slices.ContainsFunc(sames[:], func(same func() bool) bool { return !same() })
	}
	return g
}

// spoil changes all that is given, and the room behind each list's end.
func (g given) spoil() {
	for _, l := range [][]api.Live{g.a[:cap(g.a)], g.b[:cap(g.b)]} {
		for k := range l {
			spoilRow(l[k].Row)
			l[k] = api.Live{Born: -8, Gone: -8}
		}
	}
	for _, row := range g.rows[:cap(g.rows)] {
		spoilRow(row)
	}
	spoil(g.rows, nil)
	spoil(g.born, api.Run{Val: -8, First: -8, Count: -8})
	spoil(g.marks, api.Mark{At: -8, Gone: -8})
	spoil(g.cols, -8)
	spoil(g.table.Columns, api.Column{Kind: -8})
	spoil(g.p.Cols, -8)
}

// spoil writes that over a list and the room behind its end.
func spoil[T any](l []T, with T) {
	l = l[:cap(l)]
	for k := range l {
		l[k] = with
	}
}

func spoilRow(r api.Row) { spoil(r, api.Cell{Kind: -8, N: -8, S: "spoilt"}) }

// answered is what all calls answer.
type answered struct {
	merged, lives   []api.Live
	rows, projected []api.Row
	born            []api.Run
	marks           []api.Mark
	kinds           []int
}

// ask calls each call.
func (g given) ask(t *testing.T) answered {
	t.Helper()
	var got answered
	var errnos [3]api.Errno
	got.merged = Merge(g.a, g.b, 4)
	got.rows, got.born, got.marks = Vectors(g.a)
	got.lives, errnos[0] = Lives(g.rows, g.born, g.marks)
	got.projected, errnos[1] = Project(g.rows, g.cols)
	got.kinds, errnos[2] = Kinds(g.table, g.p)
	if errnos != [3]api.Errno{} {
		t.Fatalf("errors: %d", errnos)
	}
	return got
}

// kept is what was answered, in memory of its own.
func (got answered) kept() answered {
	return answered{deepLives(got.merged), deepLives(got.lives), deep(got.rows), deep(got.projected), slices.Clone(got.born), slices.Clone(got.marks), slices.Clone(got.kinds)}
}

// is fails if answers are others than these.
func (got answered) is(t *testing.T, when string, want answered) {
	t.Helper()
	for what, same := range map[string]bool{
		"Merge": sameLives(got.merged, want.merged), "Lives": sameLives(got.lives, want.lives), "Vectors, rows": sameRows(got.rows, want.rows), "Project": sameRows(got.projected, want.projected),
		"Vectors, births": slices.Equal(got.born, want.born), "Vectors, marks": slices.Equal(got.marks, want.marks), "Kinds": slices.Equal(got.kinds, want.kinds),
	} {
		if !same {
			t.Errorf("%s: %s answered otherwise", when, what)
		}
	}
}

// spoil changes all that was answered, and the room behind each list's end.
func (got answered) spoil() {
	for _, l := range [][]api.Live{got.merged, got.lives} {
		for _, one := range l {
			spoilRow(one.Row)
		}
		spoil(l, api.Live{Born: -8, Gone: -8})
	}
	for _, rows := range [][]api.Row{got.rows, got.projected} {
		for _, row := range rows {
			spoilRow(row)
		}
		spoil(rows, nil)
	}
	spoil(got.born, api.Run{Val: -8, First: -8, Count: -8})
	spoil(got.marks, api.Mark{At: -8, Gone: -8})
	spoil(got.kinds, -8)
}

// What was handed in is as it was; what was answered is its own, and the same each time.
func TestListsAreNotKept(t *testing.T) {
	s := stir(6)
	for _, count := range []int{0, 1, 2, 3, 8, 9, 64, places, places + 1} {
		for range 5 {
			g := givenOf(s, count)
			first := g.ask(t)
			want := first.kept()
			second := g.ask(t)
			second.is(t, "a second time", want)
			if !g.same() {
				t.Fatal("what was handed in was changed")
			}
			first.spoil()
			if !g.same() {
				t.Fatal("what was handed in was answered")
			}
			second.is(t, "when what was answered ahead is changed", want)
			g.ask(t).is(t, "a third time", want)
			g.spoil()
			second.is(t, "when what was handed in is changed", want)
		}
	}
}

// ownRows fails if two of the rows share cells, also in the room behind their ends.
func ownRows(t *testing.T, what string, rows ...api.Row) {
	t.Helper()
	for k, row := range rows {
		spoil(row, num(k))
	}
	for k, row := range rows {
		for _, c := range row[:cap(row)] {
			if c != num(k) {
				t.Fatalf("%s: the row at %d shares cells with another one", what, k)
			}
		}
	}
}

// rowsOf are the rows of lives.
func rowsOf(l []api.Live) []api.Row {
	var rows []api.Row
	for _, one := range l {
		rows = append(rows, one.Row)
	}
	return rows
}

// No two rows that are answered share cells, where what was handed in was one row, so often, too.
func TestRowsAreTheirOwn(t *testing.T) {
	for _, count := range []int{1, 2, 3, 64} {
		row := nums(1, 2, 3)
		l := make([]api.Live, count)
		for k := range l {
			l[k] = api.Live{Row: row, Born: 1, Gone: k % 3}
		}
		same := slices.Repeat([]api.Row{row}, count)
		ownRows(t, "Merge of one row", append(rowsOf(Merge(l, l, 1)), row)...)
		ownRows(t, "Merge of one list", append(rowsOf(Merge(l, nil, 1)), row)...)
		ownRows(t, "Merge of the other one", append(rowsOf(Merge(nil, l, 1)), row)...)
		rows, _, _ := Vectors(l)
		ownRows(t, "Vectors", append(rows, row)...)
		lives, _ := Lives(same, runsOf(make([]int, count)...), nil)
		ownRows(t, "Lives", append(rowsOf(lives), row)...)
		for _, cols := range [][]int{{0}, {0, 1, 2}, {2, 2, 2, 2, 2}} {
			rows, _ = Project(same, cols)
			ownRows(t, "Project", append(rows, row)...)
		}
	}
	// Rows that are pieces of one list, one behind the other.
	cells := nums(from(0, 12)...)
	pieces := []api.Row{cells[0:4], cells[4:8], cells[8:12], cells[2:6]}
	var l []api.Live
	for _, piece := range pieces {
		l = append(l, api.Live{Row: piece, Born: 1})
	}
	merges(t, l[:2], l[2:], 1, l...)
	rows, _, _ := Vectors(l)
	ownRows(t, "Vectors of pieces", append(rows, cells)...)
	ownRows(t, "Merge of pieces", append(rowsOf(Merge(l, l, 1)), cells)...)
	rows, _ = Project(pieces, []int{3, 0})
	ownRows(t, "Project of pieces", append(rows, cells)...)
	lives, _ := Lives(pieces, runsOf(1, 1, 2, 2), nil)
	ownRows(t, "Lives of pieces", append(rowsOf(lives), cells)...)
}

// One list that is handed in twice, and lists that are pieces of one another.
func TestListsTwice(t *testing.T) {
	l := []api.Live{life(1, 1, 2), life(2, 1, 0), life(3, 2, 3), life(4, 3, 9)}
	kept := deepLives(l)
	merges(t, l, l, 2, l[1], l[2], l[3], l[1], l[2], l[3])
	merges(t, l[:1], l[1:], 2, l[1], l[2], l[3])
	merges(t, l[:2], l[2:], 3, l[1], l[3])
	merges(t, l[2:], l[:2], 1, l[2], l[3], l[0], l[1])
	merges(t, l[:0], l, 9, l[1])
	merges(t, l, l[:0], 9, l[1])
	if !sameLives(l, kept) {
		t.Errorf("%v was changed", l)
	}
	cols := []int{0, 1, 1}
	kinds, errno := Kinds(tableOf(api.Int, api.Text), api.Projection{Cols: cols})
	if errno != api.OK {
		t.Fatal(errno)
	}
	kinds[0], kinds[1] = -5, -6
	if !slices.Equal(cols, []int{0, 1, 1}) {
		t.Errorf("%d was answered", cols)
	}
}

// What is refused is left as it was, too.
func TestWhatIsRefusedIsNotChanged(t *testing.T) {
	rows, sameRowLists := behind([]api.Row{nums(1, 2), nil, nums(3)}, []api.Row{{{N: 1}}, nums(4)}, sameRows)
	cols, sameCols := behind([]int{1, -1, 300}, []int{0, 7}, slices.Equal[[]int])
	born, sameBorn := behind([]api.Run{{Val: 7, Count: 1}, {Val: 7, First: 1, Count: 2}}, []api.Run{{Val: 3, First: 3, Count: 1}}, slices.Equal[[]api.Run])
	marks, sameMarks := behind([]api.Mark{{At: 2, Gone: 9}, {At: 1, Gone: 4}}, []api.Mark{{At: 0, Gone: 1}}, slices.Equal[[]api.Mark])
	table := tableOf(api.Int)
	columns, sameColumns := behind(table.Columns, []api.Column{{Name: "x", Kind: 2}}, slices.Equal[[]api.Column])
	table.Columns = columns
	right := runsOf(1, 1, 1)
	noLives(t, rows, born, nil)
	noLives(t, rows, right, marks)
	noLives(t, rows[:1], right, nil)
	noLives(t, rows, born[:1], marks[:1])
	projectsNot(t, rows, cols)
	projectsNot(t, rows, cols[:1])
	projectsNot(t, rows[:0], cols)
	noKinds(t, table, api.Projection{Cols: cols})
	noKinds(t, table, api.Projection{Cols: cols[:1]})
	if !sameRowLists() || !sameCols() || !sameBorn() || !sameMarks() || !sameColumns() || !slices.Equal(right, runsOf(1, 1, 1)) {
		t.Errorf("changed: %v, %d, %d, %d, %v", rows, cols, born, marks, columns)
	}
}

// What lies in the room behind a list's end is not read.
func TestRoomIsNotRead(t *testing.T) {
	l := []api.Live{life(1, 1, 2), life(2, 1, 0), life(3, 2, 3)}
	rows, born, marks := vectorsOf(l)
	merges(t, l[:1], l[:2], 1, l[0], l[0], l[1])
	hasVectors(t, l[:2], rows[:2], runsOf(1, 1), marks[:1])
	hasLives(t, rows[:2], born[:1], marks[:1], l[:2]...)
	noLives(t, rows[:3], born[:1], marks)
	hasLives(t, rows, born, marks[:1], l[0], l[1], life(3, 2, 0))
	wide := []api.Row{nums(1, 2, 3)[:1], nums(4, 5, 6)}
	projects(t, wide, []int{0}, nums(1), nums(4))
	projectsNot(t, wide, []int{1})
	projects(t, wide[1:], []int{0, 1, 2}[:2], nums(4, 5))
	projects(t, wide[:0], []int{2, -1}[:1])
	table := tableOf(api.Int, api.Text)
	table.Columns = table.Columns[:1]
	noKinds(t, table, by(1))
	kindsAre(t, table, api.Projection{Cols: []int{0, 1}[:1]}, api.Int)
}

// nil and the empty list are answered alike.
func TestNilAndEmpty(t *testing.T) {
	some := []api.Live{life(1, 1, 0), life(2, 1, 5)}
	for _, none := range [][]api.Live{nil, {}, some[:0]} {
		for _, other := range [][]api.Live{nil, {}, some[:0]} {
			for _, low := range edges {
				merges(t, none, other, low)
			}
		}
		merges(t, none, some, 4, some...)
		merges(t, some, none, 5, some[0])
		hasVectors(t, none, nil, nil, nil)
	}
	for _, row := range []api.Row{nil, {}, nums(1)[:0]} {
		l := []api.Live{{Row: row, Born: 1}, {Row: row, Born: 1, Gone: 2}}
		merges(t, l, l, 1, l[0], l[1], l[0], l[1])
		hasVectors(t, l, []api.Row{nil, {}}, []api.Run{{Val: 1, Count: 2}}, []api.Mark{{At: 1, Gone: 2}})
		hasLives(t, []api.Row{row, row}, []api.Run{{Val: 1, Count: 2}}, []api.Mark{{At: 1, Gone: 2}}, l...)
		projects(t, []api.Row{row}, nil, row)
		projectsNot(t, []api.Row{row}, []int{0})
	}
	for _, rows := range [][]api.Row{nil, {}} {
		for _, born := range [][]api.Run{nil, {}} {
			for _, marks := range [][]api.Mark{nil, {}} {
				hasLives(t, rows, born, marks)
				hasLives(t, ones(2), []api.Run{{Val: 3, Count: 2}}, marks, life(0, 3, 0), life(1, 3, 0))
			}
			noLives(t, ones(1), born, nil)
			noLives(t, rows, born, []api.Mark{{At: 0, Gone: 1}})
		}
		noLives(t, rows, []api.Run{{Val: 3, Count: 1}}, nil)
		for _, cols := range [][]int{nil, {}} {
			projects(t, rows, cols)
			projects(t, ones(2), cols, nil, nil)
		}
	}
	for _, columns := range [][]api.Column{nil, {}, tableOf(1).Columns} {
		for _, cols := range [][]int{nil, {}} {
			kindsAre(t, api.Table{Columns: columns}, api.Projection{Cols: cols})
		}
	}
	noKinds(t, api.Table{}, by(0))
	noKinds(t, api.Table{Columns: []api.Column{}}, by(0))
}

// Lists of any length end.
func TestLongLists(t *testing.T) {
	const count = 1 << 20
	l := make([]api.Live, count)
	if got := Merge(l, l, 1); len(got) != 2*count {
		t.Errorf("%d lives", len(got))
	}
	if rows, born, marks := Vectors(l); len(rows) != count || len(born) != 0 || len(marks) != 0 {
		t.Errorf("%d rows, %d births, %d marks", len(rows), len(born), len(marks))
	}
	noLives(t, make([]api.Row, count), make([]api.Run, count), make([]api.Mark, count))
	noLives(t, make([]api.Row, count), nil, make([]api.Mark, count))
	noLives(t, ones(1), runsOf(1), make([]api.Mark, count))
	noLives(t, ones(1), make([]api.Run, count), nil)
	projectsNot(t, make([]api.Row, count), []int{0})
	projects(t, []api.Row{nums(7)}, make([]int, count), slices.Repeat(nums(7), count))
	noKinds(t, tableOf(1), by(append(make([]int, count), 1)...))
}

// Mo3: what is merged

// around are the numbers at, and beside, those that stand in lives, and some more.
func around(lists ...[]api.Live) []int {
	l := []int{least, 0, 1, top, great}
	for _, one := range slices.Concat(lists...) {
		for _, e := range []int{one.Born, one.Gone} {
			l = append(l, max(e, least+1)-1, e, min(e, great-1)+1)
		}
	}
	slices.Sort(l)
	return slices.Compact(l)
}

// seesTheSame fails if in an epoch from one on others are seen of what was merged than of both lists.
func seesTheSame(t *testing.T, a, b []api.Live) {
	t.Helper()
	epochs := around(a, b)
	both := slices.Concat(a, b)
	for k, low := range epochs {
		merged := Merge(a, b, low)
		for _, e := range epochs[k:] {
			want := seenOf(both, e)
			if got := seenOf(merged, e); !sameLives(got, want) {
				t.Fatalf("Merge(%v.., %v.., %d): in %d %v.. are seen, not %v..", short(a), short(b), low, e, short(got), short(want))
			}
			got := slices.DeleteFunc(slices.Clone(merged), func(l api.Live) bool { return !epoch.Sees(l.Born, l.Gone, e) })
			if !sameLives(got, want) {
				t.Fatalf("Merge(%v.., %v.., %d): in %d layer 21 sees %v.., not %v..", short(a), short(b), low, e, short(got), short(want))
			}
			sees(t, merged, e, want)
		}
	}
}

// sees fails if the births and marks of lives do not tell that these are seen, if layer 21 may be asked.
func sees(t *testing.T, l []api.Live, e int, want []api.Live) {
	t.Helper()
	rows, born, marks := Vectors(l)
	if !areMarks(marks) || len(rows) > places {
		return
	}
	list, errno := epoch.Visible(born, marks, e)
	if errno != api.OK {
		t.Fatalf("Visible of the vectors of %v..: %d", short(l), errno)
	}
	var seen []api.Live
	for at := range list.Places() {
		seen = append(seen, api.Live{Row: rows[at], Born: l[at].Born, Gone: l[at].Gone})
	}
	if !sameLives(seen, want) {
		t.Fatalf("by the vectors of %v.. in %d %v.. are seen, not %v..", short(l), e, short(seen), short(want))
	}
}

func TestMergeSeesTheSame(t *testing.T) {
	seesTheSame(t, nil, nil)
	seesTheSame(t, []api.Live{life(1, 2, 4)}, []api.Live{life(2, 3, 0)})
	var all []api.Live
	for _, born := range edges {
		for _, gone := range edges {
			all = append(all, life(len(all), born, gone))
			seesTheSame(t, all[len(all)-1:], nil)
			seesTheSame(t, nil, all[len(all)-1:])
		}
	}
	seesTheSame(t, all[:200], all[200:])
	// All lists of two, of few epochs.
	for k := range 5 * 5 * 5 * 5 {
		a, b := life(1, k%5, k/5%5), life(2, k/25%5, k/125)
		seesTheSame(t, []api.Live{a, b}, nil)
		seesTheSame(t, []api.Live{a}, []api.Live{b})
	}
}

func TestMergeSeesTheSameOfMany(t *testing.T) {
	s := stir(7)
	for _, most := range []int{1, 2, 3, 5, 9, 40} {
		for range 60 {
			seesTheSame(t, s.lives(s.below(30), most), s.lives(s.below(30), most))
		}
	}
	for range 20 {
		seesTheSame(t, s.oddLives(s.below(9)), s.oddLives(s.below(9)))
	}
	for _, count := range []int{places / 2, places - 1, places, places + 1} {
		seesTheSame(t, s.lives(count, 3), s.lives(places/2, 4))
	}
}

// What is merged step by step is seen as what is merged at once; what is merged again is the same.
func TestMergeAgain(t *testing.T) {
	s := stir(8)
	for range 2000 {
		a, b, c := s.lives(s.below(9), 6), s.lives(s.below(9), 6), s.lives(s.below(9), 6)
		low := s.below(7)
		all := Merge(slices.Concat(a, b, c), nil, low)
		merges(t, Merge(a, b, s.below(low+1)), c, low, all...)
		merges(t, a, Merge(b, c, low), low, all...)
		merges(t, all, nil, low, all...)
		merges(t, nil, all, low, all...)
	}
}

// Mo3: there and back

// thereAndBack fails if lives, as vectors, are not the same lives again.
func thereAndBack(t *testing.T, l []api.Live) {
	t.Helper()
	rows, born, marks := Vectors(l)
	got, errno := Lives(rows, born, marks)
	if !sameLives(got, l) || errno != api.OK {
		t.Fatalf("there and back of %v.., %d of them: %v.., %d of them, %d", short(l), len(l), short(got), len(got), errno)
	}
}

// backAndThere fails if rows, births and marks, as lives, are not the same again.
func backAndThere(t *testing.T, rows []api.Row, born []api.Run, marks []api.Mark) {
	t.Helper()
	l, errno := Lives(rows, born, marks)
	if errno != api.OK {
		t.Fatalf("Lives(%v.., %v.., %v..): %d", short(rows), short(born), short(marks), errno)
	}
	hasVectors(t, l, rows, born, marks)
}

func TestThereAndBack(t *testing.T) {
	var l []api.Live
	for _, born := range edges {
		for _, gone := range []int{0, 1, 2, 3, 1 << 31, 1 << 32, top - 1, top} {
			l = append(l, life(len(l), born, gone))
			thereAndBack(t, l[len(l)-1:])
			thereAndBack(t, l)
		}
	}
	for _, row := range anyRows() {
		thereAndBack(t, []api.Live{{Row: row, Born: 1}, {Row: row, Born: 2, Gone: 3}})
	}
	s := stir(9)
	for _, count := range slices.Concat(smallSizes, sizes[:9]) {
		thereAndBack(t, livesBorn(count, func(at int) int { return at }))
		thereAndBack(t, livesBorn(count, func(int) int { return 1 }))
		thereAndBack(t, livesGone(count, func(at int) int { return max(0, min(1, places-at)) * (1 + at) }))
		for range 10 {
			thereAndBack(t, s.lives(count, top))
			thereAndBack(t, s.lives(count, 5))
		}
	}
}

func TestBackAndThere(t *testing.T) {
	s := stir(10)
	for _, count := range slices.Concat(smallSizes, sizes[:9]) {
		for _, vals := range [][]int{make([]int, count), from(0, count), s.vals(count, 3), s.vals(count, top), reversed(from(-count, 0))} {
			for range 4 {
				backAndThere(t, s.rows(count), runsOf(vals...), s.marks(count, top))
			}
			backAndThere(t, s.rows(count), runsOf(vals...), nil)
		}
	}
}

// Vectors that tell of no epoch, of a place where no marks are, or of more rows than births have numbers, are no way back.
func TestNoWayBack(t *testing.T) {
	refused := func(l []api.Live) {
		t.Helper()
		rows, born, marks := Vectors(l)
		noLives(t, rows, born, marks)
	}
	for _, gone := range noEpochs[1:] {
		refused([]api.Live{life(1, 1, gone)})
		refused([]api.Live{life(1, 1, 0), life(2, 1, gone), life(3, 1, 1)})
	}
	for _, count := range []int{places + 1, places + 2, numbers} {
		refused(livesGone(count, func(at int) int { return at / places }))
		refused(livesGone(count, func(at int) int { return max(0, at+2-count) }))
	}
	refused(livesBorn(numbers+1, func(int) int { return 1 }))
	thereAndBack(t, livesGone(places, func(at int) int { return max(0, at+2-places) }))
	thereAndBack(t, livesBorn(numbers, func(int) int { return 1 }))
}

// P2: however the rows are laid, moved or not, the same are seen, by each of their columns.
func TestColumnsOfWhatIsSeen(t *testing.T) {
	s := stir(11)
	for range 300 {
		laid, written := s.lives(s.below(20), 5), s.lives(s.below(20), 5)
		for _, l := range [][]api.Live{laid, written} {
			for k := range l {
				l[k].Row = nums(k, s.below(3), s.below(3))
			}
		}
		low := 1 + s.below(5)
		moved := Merge(laid, written, low)
		for e := low; e <= 6; e++ {
			for _, cols := range [][]int{{0}, {2, 1}, {1, 1, 0}} {
				before, errno := Project(rowsOf(seenOf(slices.Concat(laid, written), e)), cols)
				after, errno2 := Project(rowsOf(seenOf(moved, e)), cols)
				if errno != api.OK || errno2 != api.OK || !sameRows(before, after) {
					t.Fatalf("columns %d in %d: %v.., not %v..", cols, e, short(after), short(before))
				}
			}
		}
	}
}
