package runs

import (
	"math"
	"math/big"
	"peristyle/api"
	"peristyle/vint"
	"slices"
	"strings"
	"testing"
)

const most = 1 << 16 // numbers that runs have

var (
	someNumbers = []int{0, 1, -1, math.MinInt, math.MaxInt, 7, 63, 64, -64, -65, 1 << 32, math.MinInt + 1, math.MaxInt - 1}
	wrongCounts = []int{-1, -2, -8, -most, -most - 1, most + 1, most + 2, 2 * most, 1 << 31, 1 << 32, 1<<32 + 1, 1<<32 + 3, -1 << 32, 1 << 62, math.MinInt, math.MinInt + 1, math.MinInt + 3, math.MaxInt - 1, math.MaxInt}
)

// stirrer gives numbers by a fixed rule.
type stirrer struct{ word uint64 }

func stir(seed int) *stirrer { return &stirrer{uint64(seed)*2 + 1} }

func (s *stirrer) below(n int) int {
	s.word = s.word*6364136223846793005 + 1442695040888963407
	return int(s.word >> 33 % uint64(n))
}

// runs are some that may be, so many, none of more numbers than that.
func (s *stirrer) runs(count, longest int) []api.Run {
	var l []api.Run
	first := 0
	for len(l) < count {
		val := someNumbers[s.below(len(someNumbers))]
		if s.below(2) == 0 {
			val = s.below(1 << (1 + s.below(30)))
		}
		if len(l) > 0 && l[len(l)-1].Val == val {
			continue
		}
		run := api.Run{Val: val, First: first, Count: 1 + s.below(longest)}
		l, first = append(l, run), first+run.Count
	}
	return l
}

// The chapter's words.

// areRuns tells whether runs may be, by great numbers.
func areRuns(l []api.Run) bool {
	ahead := new(big.Int)
	for k, run := range l {
		if ahead.Cmp(big.NewInt(int64(run.First))) != 0 || run.Count < 1 || k > 0 && run.Val == l[k-1].Val {
			return false
		}
		ahead.Add(ahead, big.NewInt(int64(run.Count)))
	}
	return ahead.Cmp(big.NewInt(most)) <= 0
}

// numbersOf are the numbers that runs have.
func numbersOf(l []api.Run) []int {
	var numbers []int
	for _, run := range l {
		numbers = append(numbers, slices.Repeat([]int{run.Val}, run.Count)...)
	}
	return numbers
}

// runsOf are the runs that have numbers: those alike are cut off, again and again.
func runsOf(numbers []int) []api.Run {
	var l []api.Run
	for from := 0; from < len(numbers); {
		to := from + 1
		for to < len(numbers) && numbers[to] == numbers[from] {
			to++
		}
		l = append(l, api.Run{Val: numbers[from], First: from, Count: to - from})
		from = to
	}
	return l
}

// bytesOf are the bytes of runs, whether they may be or not.
func bytesOf(l []api.Run) string {
	var s strings.Builder
	for _, run := range l {
		s.WriteString(vint.Put(run.Val))
		s.WriteString(vint.Put(run.Count))
	}
	return s.String()
}

// runsIn are the runs, of so many numbers, whose bytes these are; false, if there are none.
func runsIn(s string, n int) ([]api.Run, bool) {
	var parts []int
	for s != "" {
		part, used, errno := vint.Take(s)
		if errno != api.OK {
			return nil, false
		}
		parts, s = append(parts, part), s[used:]
	}
	if len(parts)%2 > 0 {
		return nil, false
	}
	var l []api.Run
	first := 0
	for pair := range slices.Chunk(parts, 2) {
		l = append(l, api.Run{Val: pair[0], First: first, Count: pair[1]})
		first += pair[1]
	}
	return l, areRuns(l) && first == n
}

// short is a list as it is told: its beginning alone.
func short[T any](l []T) []T { return l[:min(len(l), 20)] }

// goes fails if runs are not made of those numbers and flat again, or not put as those bytes and taken of them.
func goes(t *testing.T, numbers []int, l []api.Run, bytes string) {
	t.Helper()
	if got := Of(numbers); !slices.Equal(got, l) {
		t.Errorf("Of %d numbers, %d..: %d.., not %d..", len(numbers), short(numbers), short(got), short(l))
	}
	if got, errno := Flat(l); !slices.Equal(got, numbers) || errno != api.OK {
		t.Errorf("Flat of %d runs, %d..: %d.., %d, not %d..", len(l), short(l), short(got), errno, short(numbers))
	}
	puts(t, l, bytes)
	takes(t, bytes, len(numbers), l)
}

// puts fails if Put answers other bytes.
func puts(t *testing.T, l []api.Run, want string) {
	t.Helper()
	if got, errno := Put(l); got != want || errno != api.OK {
		t.Errorf("Put of %d runs, %d..: %x.., %d, not %x..", len(l), short(l), short([]byte(got)), errno, short([]byte(want)))
	}
}

// takes fails if Take answers other runs.
func takes(t *testing.T, s string, n int, want []api.Run) {
	t.Helper()
	if got, errno := Take(s, n); !slices.Equal(got, want) || errno != api.OK {
		t.Errorf("Take of %d bytes, %x.., %d: %d.., %d, not %d..", len(s), short([]byte(s)), n, short(got), errno, short(want))
	}
}

// takesNone fails if Take does not answer that error, and nothing beside.
func takesNone(t *testing.T, s string, n int, want api.Errno) {
	t.Helper()
	if got, errno := Take(s, n); len(got) != 0 || errno != want {
		t.Errorf("Take of %d bytes, %x.., %d: %d.., %d, not %d alone", len(s), short([]byte(s)), n, short(got), errno, want)
	}
}

// takesAsMeant fails if Take of a count that may be answers otherwise than the chapter's words, and tells whether there are runs.
func takesAsMeant(t *testing.T, s string, n int) bool {
	t.Helper()
	l, ok := runsIn(s, n)
	if ok {
		takes(t, s, n, l)
	} else {
		takesNone(t, s, n, api.ErrForm)
	}
	return ok
}

// finds fails if Find does not answer that run, or that error and 0.
func finds(t *testing.T, l []api.Run, at, want int, wantErrno api.Errno) {
	t.Helper()
	if got, errno := Find(l, at); got != want || errno != wantErrno {
		t.Errorf("Find in %d runs, %d.., at %d: %d, %d, not %d, %d", len(l), short(l), at, got, errno, want, wantErrno)
	}
}

// placesAround are places that runs, which may be, have not.
func placesAround(l []api.Run) []int {
	behind := len(numbersOf(l))
	return []int{-1, -2, behind, behind + 1, -behind - 1, most, most + 1, 1 << 32, -1 << 32, math.MinInt, math.MinInt + 1, math.MaxInt - 1, math.MaxInt}
}

// findsAll fails if Find does not find each place, in its own run, and none besides.
func findsAll(t *testing.T, l []api.Run) {
	t.Helper()
	at := 0
	for k, run := range l {
		for range run.Count {
			finds(t, l, at, k, api.OK)
			at++
		}
	}
	for _, place := range placesAround(l) {
		finds(t, l, place, 0, api.ErrNone)
	}
}

// refused fails if runs that may not be are not refused by ErrArg, and nothing beside; in Find at places that they might have, and at others.
func refused(t *testing.T, l []api.Run) {
	t.Helper()
	if got, errno := Flat(l); len(got) != 0 || errno != api.ErrArg {
		t.Errorf("Flat(%d): %d.., %d, not ErrArg alone", short(l), short(got), errno)
	}
	if got, errno := Put(l); got != "" || errno != api.ErrArg {
		t.Errorf("Put(%d): %x.., %d, not ErrArg alone", short(l), short([]byte(got)), errno)
	}
	for _, at := range []int{0, 1, 2, 3, 5, 100, most - 1, most, -1, -2, 1 << 32, math.MinInt, math.MaxInt} {
		finds(t, l, at, 0, api.ErrArg)
	}
}

// asMeant fails if the calls answer otherwise of runs than the chapter's words, and tells whether they may be.
func asMeant(t *testing.T, l []api.Run) bool {
	t.Helper()
	if !areRuns(l) {
		refused(t, l)
		return false
	}
	goes(t, numbersOf(l), l, bytesOf(l))
	return true
}

// Ru1

func TestRunsAndTheirBytes(t *testing.T) {
	for _, c := range []struct {
		numbers []int
		l       []api.Run
		bytes   string
	}{
		{[]int{7, 7, 3}, []api.Run{{Val: 7, First: 0, Count: 2}, {Val: 3, First: 2, Count: 1}}, "\x0e\x04\x06\x02"}, // the chapter's example
		{nil, nil, ""}, {[]int{}, []api.Run{}, ""},
		{[]int{0}, []api.Run{{Val: 0, First: 0, Count: 1}}, "\x00\x02"},
		{[]int{1}, []api.Run{{Val: 1, First: 0, Count: 1}}, "\x02\x02"},
		{[]int{-1}, []api.Run{{Val: -1, First: 0, Count: 1}}, "\x01\x02"},
		{[]int{math.MinInt}, []api.Run{{Val: math.MinInt, First: 0, Count: 1}}, "\xff\xff\xff\xff\xff\xff\xff\xff\xff\x01\x02"},
		{[]int{math.MaxInt}, []api.Run{{Val: math.MaxInt, First: 0, Count: 1}}, "\xfe\xff\xff\xff\xff\xff\xff\xff\xff\x01\x02"},
		{[]int{0, 0}, []api.Run{{Val: 0, First: 0, Count: 2}}, "\x00\x04"},
		{[]int{5, 5}, []api.Run{{Val: 5, First: 0, Count: 2}}, "\x0a\x04"},
		{[]int{0, 1}, []api.Run{{Val: 0, First: 0, Count: 1}, {Val: 1, First: 1, Count: 1}}, "\x00\x02\x02\x02"},
		{[]int{1, -1}, []api.Run{{Val: 1, First: 0, Count: 1}, {Val: -1, First: 1, Count: 1}}, "\x02\x02\x01\x02"},
		{[]int{1, 1, 0, 1}, []api.Run{{Val: 1, First: 0, Count: 2}, {Val: 0, First: 2, Count: 1}, {Val: 1, First: 3, Count: 1}}, "\x02\x04\x00\x02\x02\x02"},
		{[]int{math.MinInt, math.MaxInt, math.MaxInt}, []api.Run{{Val: math.MinInt, First: 0, Count: 1}, {Val: math.MaxInt, First: 1, Count: 2}}, "\xff\xff\xff\xff\xff\xff\xff\xff\xff\x01\x02\xfe\xff\xff\xff\xff\xff\xff\xff\xff\x01\x04"},
		{make([]int, 63), []api.Run{{Val: 0, First: 0, Count: 63}}, "\x00\x7e"},
		{make([]int, 64), []api.Run{{Val: 0, First: 0, Count: 64}}, "\x00\x80\x01"},
		{make([]int, most), []api.Run{{Val: 0, First: 0, Count: most}}, "\x00\x80\x80\x08"},
	} {
		goes(t, c.numbers, c.l, c.bytes)
		if len(c.numbers) < 100 {
			findsAll(t, c.l)
		}
	}
}

// All lists of up to four of some numbers.
func TestOfFewNumbers(t *testing.T) {
	lists := [][]int{nil}
	for first := 0; first < len(lists) && len(lists[first]) < 4; first++ {
		for _, n := range []int{0, 1, -1, 5, math.MinInt, math.MaxInt} {
			lists = append(lists, append(slices.Clone(lists[first]), n))
		}
	}
	for _, numbers := range lists {
		l := runsOf(numbers)
		goes(t, numbers, l, bytesOf(l))
		findsAll(t, l)
	}
}

func TestOfNumbersAllAlikeAndNone(t *testing.T) {
	for _, count := range []int{1, 2, 3, 8, 63, 64, 65, 1000, most - 1, most} {
		for _, val := range someNumbers {
			goes(t, slices.Repeat([]int{val}, count), []api.Run{{Val: val, Count: count}}, vint.Put(val)+vint.Put(count))
		}
		numbers := make([]int, count)
		var l []api.Run
		for k := range numbers {
			numbers[k] = k*(k%2*2-1) - 3
			l = append(l, api.Run{Val: numbers[k], First: k, Count: 1})
		}
		goes(t, numbers, l, bytesOf(l))
	}
}

func TestOfManyNumbers(t *testing.T) {
	s := stir(1)
	for count := range 60 {
		for _, longest := range []int{1, 2, 3, 20, 200, 1000} {
			l := s.runs(count, longest)
			goes(t, numbersOf(l), l, bytesOf(l))
		}
	}
}

func TestOfMostNumbers(t *testing.T) {
	s := stir(2)
	for _, longest := range []int{1, 2, 300, most} {
		numbers := numbersOf(s.runs(2*most/longest+1, longest))
		for len(numbers) < most+1 {
			numbers = append(numbers, len(numbers))
		}
		l := runsOf(numbers[:most])
		goes(t, numbers[:most], l, bytesOf(l))
		for _, count := range []int{most + 1, len(numbers)} {
			if got := Of(numbers[:count]); len(got) != 0 {
				t.Errorf("Of %d numbers: %d runs", count, len(got))
			}
			refused(t, runsOf(numbers[:count]))
		}
	}
	for _, count := range []int{most + 1, most + 2, 2 * most, 1 << 20} {
		if got := Of(make([]int, count)); len(got) != 0 {
			t.Errorf("Of %d noughts: %d runs", count, len(got))
		}
	}
}

func TestNoRuns(t *testing.T) {
	for _, l := range [][]api.Run{nil, {}} {
		if numbers, errno := Flat(l); len(numbers) != 0 || errno != api.OK {
			t.Errorf("Flat of none: %d, %d", numbers, errno)
		}
		puts(t, l, "")
		for _, at := range []int{0, 1, -1, 2, most, math.MinInt, math.MaxInt} {
			finds(t, l, at, 0, api.ErrNone)
		}
	}
}

func TestFind(t *testing.T) {
	s := stir(3)
	for count := range 20 {
		for _, longest := range []int{1, 2, 3, 9, 40} {
			findsAll(t, s.runs(count, longest))
		}
	}
	for _, l := range [][]api.Run{
		{{Val: 4, Count: most}},
		{{Val: 4, Count: 1}, {Val: 5, First: 1, Count: most - 1}},
		{{Val: 4, Count: most - 1}, {Val: 5, First: most - 1, Count: 1}},
		s.runs(1000, 60),
	} {
		for k, run := range l {
			for _, at := range []int{run.First, run.First + run.Count/2, run.First + run.Count - 1} {
				finds(t, l, at, k, api.OK)
			}
		}
		for _, at := range placesAround(l) {
			finds(t, l, at, 0, api.ErrNone)
		}
	}
}

func TestFindInMostRuns(t *testing.T) {
	numbers := make([]int, most)
	for k := range numbers {
		numbers[k] = k % 2
	}
	l := runsOf(numbers)
	for _, at := range []int{0, 1, 2, 3, 4095, most/2 - 1, most / 2, most - 2, most - 1} {
		finds(t, l, at, at, api.OK)
	}
	for _, at := range placesAround(l) {
		finds(t, l, at, 0, api.ErrNone)
	}
}

func TestWrongFirst(t *testing.T) {
	for _, first := range []int{1, -1, 2, -2, most, 1 << 32, math.MinInt, math.MaxInt} {
		refused(t, []api.Run{{Val: 7, First: first, Count: 1}})
		refused(t, []api.Run{{Val: 7, First: first, Count: 2}, {Val: 3, First: first + 2, Count: 1}})
		refused(t, []api.Run{{Val: 7, First: first, Count: 2}, {Val: 3, First: 2, Count: 1}})
	}
	// Each run's, in turn, of runs of one number and of more.
	for _, l := range [][]api.Run{
		{{Val: 7, First: 0, Count: 2}, {Val: 3, First: 2, Count: 1}},
		{{Val: 7, First: 0, Count: 1}, {Val: 3, First: 1, Count: 1}, {Val: 7, First: 2, Count: 1}},
		{{Val: 7, First: 0, Count: 3}, {Val: 3, First: 3, Count: 2}, {Val: 7, First: 5, Count: 4}, {Val: 0, First: 9, Count: 1}},
	} {
		for k := range l {
			for _, by := range []int{1, -1, 2, -2, -l[k].First - 1, -2 * l[k].First, most, -most, 1 << 32, -1 << 32, math.MinInt, math.MaxInt} {
				if by == 0 {
					continue
				}
				wrong := slices.Clone(l)
				wrong[k].First += by
				refused(t, wrong)
				for j := k + 1; j < len(wrong); j++ {
					wrong[j].First += by
				}
				refused(t, wrong)
			}
		}
		asMeant(t, l)
	}
}

func TestWrongCount(t *testing.T) {
	for _, count := range []int{0, -1, -2, -most, most + 1, most + 2, 2 * most, 1 << 32, 1<<32 + 1, -1 << 32, math.MinInt, math.MinInt + 1, math.MaxInt, math.MaxInt - 1} {
		refused(t, []api.Run{{Val: 7, Count: count}})
		for at := range 3 {
			l := []api.Run{{Val: 7, Count: 2}, {Val: 3, Count: 2}, {Val: 7, Count: 2}}
			l[at].Count = count
			for k := range l[1:] {
				l[k+1].First = l[k].First + l[k].Count
			}
			refused(t, l)
			for k := range l {
				l[k].First = 2 * k
			}
			refused(t, l)
		}
	}
}

// Counts that together are just as many as may be, more, and more than an int holds; Firsts go round with them.
func TestCountsTogether(t *testing.T) {
	for _, c := range []struct {
		counts []int
		may    bool
	}{
		{[]int{most}, true}, {[]int{most + 1}, false},
		{[]int{1, most - 1}, true}, {[]int{1, most}, false}, {[]int{most, 1}, false}, {[]int{most - 1, 1}, true}, {[]int{most - 1, 2}, false},
		{[]int{most / 2, most / 2}, true}, {[]int{most / 2, most/2 + 1}, false}, {[]int{most, most}, false},
		{[]int{1, most - 2, 1}, true}, {[]int{1, most - 1, 1}, false}, {[]int{most - 2, 1, 1}, true}, {[]int{most - 2, 1, 2}, false},
		{[]int{1, math.MaxInt}, false}, {[]int{math.MaxInt, 1}, false}, {[]int{math.MaxInt, 1, 1}, false}, {[]int{math.MaxInt, math.MaxInt}, false}, {[]int{math.MaxInt, math.MaxInt, 2}, false}, {[]int{math.MaxInt, math.MaxInt, 3, 5}, false}, {[]int{1, math.MaxInt, math.MaxInt, 2}, false}, {[]int{1 << 62, 1 << 62, 1 << 62, 1 << 62}, false}, {[]int{1 << 62, 1 << 62, 1 << 62, 1 << 62, 1}, false}, {[]int{5, math.MinInt, math.MinInt}, false},
	} {
		var l []api.Run
		first := 0
		for k, count := range c.counts {
			l = append(l, api.Run{Val: k % 2, First: first, Count: count})
			first += count
		}
		if areRuns(l) != c.may {
			t.Errorf("Counts %d: not as they were meant", c.counts)
		}
		asMeant(t, l)
		if !c.may {
			for _, n := range []int{0, 1, 2, 5, most - 1, most} {
				takesNone(t, bytesOf(l), n, api.ErrForm)
			}
		}
	}
}

func TestValOfTheRunAhead(t *testing.T) {
	for _, val := range someNumbers {
		refused(t, []api.Run{{Val: val, Count: 1}, {Val: val, First: 1, Count: 1}})
		refused(t, []api.Run{{Val: val, Count: 3}, {Val: val, First: 3, Count: 5}, {Val: 9, First: 8, Count: 1}})
		refused(t, []api.Run{{Val: 9, Count: 3}, {Val: val, First: 3, Count: 5}, {Val: val, First: 8, Count: 1}})
		refused(t, []api.Run{{Val: 9, Count: 1}, {Val: val, First: 1, Count: 1}, {Val: val, First: 2, Count: 1}, {Val: 9, First: 3, Count: 1}})
		asMeant(t, []api.Run{{Val: val, Count: 1}, {Val: 9, First: 1, Count: 1}, {Val: val, First: 2, Count: 1}})
		asMeant(t, []api.Run{{Val: val, Count: 2}, {Val: val ^ 1, First: 2, Count: 1}, {Val: val, First: 3, Count: 2}, {Val: val ^ 1<<62, First: 5, Count: 1}})
	}
}

// One fault in runs that may be: in the first, in the last, and in each between.
func TestOneFault(t *testing.T) {
	s := stir(4)
	for _, count := range []int{1, 2, 3, 4, 9, 100} {
		l := s.runs(count, 5)
		for k := range l {
			for _, change := range []func(run *api.Run){
				func(run *api.Run) { run.First++ },
				func(run *api.Run) { run.First-- },
				func(run *api.Run) { run.First = math.MinInt },
				func(run *api.Run) { run.Count = 0 },
				func(run *api.Run) { run.Count = -1 },
				func(run *api.Run) { run.Count = -run.Count },
				func(run *api.Run) { run.Count = most + 1 },
				func(run *api.Run) { run.Count = math.MaxInt },
				func(run *api.Run) { run.Count = math.MinInt },
				func(run *api.Run) { run.Val = l[max(k-1, 0)].Val },
				func(run *api.Run) { run.Val = l[min(k+1, count-1)].Val },
				func(run *api.Run) { run.Count++ },
			} {
				wrong := slices.Clone(l)
				change(&wrong[k])
				asMeant(t, wrong)
			}
		}
	}
}

// Any runs of small numbers.
func TestAnyRuns(t *testing.T) {
	s := stir(5)
	may := 0
	for range 100000 {
		var l []api.Run
		first := 0
		for range s.below(4) {
			run := api.Run{Val: s.below(4), First: first, Count: 1 + s.below(4)}
			if s.below(8) == 0 {
				run.First += s.below(3) - 1
			}
			if s.below(8) == 0 {
				run.Count = s.below(4) - 2
			}
			l, first = append(l, run), run.First+run.Count
		}
		if asMeant(t, l) {
			may++
		}
		if t.Failed() {
			t.FailNow()
		}
	}
	if may < 10000 || may > 90000 {
		t.Errorf("%d of them may be", may)
	}
}

// Ru2

// ErrArg comes ahead of ErrForm: some of the bytes here are of no runs besides.
func TestTakeOfWrongCounts(t *testing.T) {
	for _, s := range []string{"", "\x00", "\x80", "\x0e\x04\x06\x02", "\x00\x02", "\x00\x01", "\x0e\x04\x0e\x02", bytesOf([]api.Run{{Val: 1, Count: most + 1}})} {
		for _, n := range wrongCounts {
			takesNone(t, s, n, api.ErrArg)
		}
	}
	for _, n := range wrongCounts {
		takesNone(t, bytesOf([]api.Run{{Val: 5, Count: n}}), n, api.ErrArg)
		takesNone(t, bytesOf([]api.Run{{Val: 5, Count: n}}), most, api.ErrForm)
	}
}

func TestTakeOfFewBytes(t *testing.T) {
	takes(t, "", 0, nil)
	for _, n := range []int{1, 2, 3, 64, most - 1, most} {
		takesNone(t, "", n, api.ErrForm)
		takesNone(t, "\x0e", n, api.ErrForm)
		takes(t, bytesOf([]api.Run{{Val: 5, Count: n}}), n, []api.Run{{Val: 5, Count: n}})
	}
	for _, s := range []string{"\x00", "\x0e", "\x80", "\xff", "\x00\x00", "\x0e\x00", "\x0e\x01", "\x0e\x02", "\x0e\x04\x06\x02", "\x0e\x02\x06\x01", "\x0e\x00\x06\x00", strings.Repeat("\x00", 64)} {
		takesNone(t, s, 0, api.ErrForm)
	}
}

func TestTakeOfAnotherCount(t *testing.T) {
	s := stir(6)
	for count := range 30 {
		for _, longest := range []int{1, 2, 5, 100, 2000} {
			l := s.runs(count, longest)
			has := len(numbersOf(l))
			takes(t, bytesOf(l), has, l)
			for _, n := range []int{0, 1, has - 1, has + 1, has - 2, has + 2, has * 2, has / 2, count, count + 1, most} {
				if n >= 0 && n != has && n <= most {
					takesNone(t, bytesOf(l), n, api.ErrForm)
				}
			}
		}
	}
	takesNone(t, "\x0e\x04\x06\x02", 2, api.ErrForm)
	takesNone(t, "\x0e\x04\x06\x02", 4, api.ErrForm)
}

func TestTakeOfBytesThatAreCutOff(t *testing.T) {
	s := stir(7)
	for count := 1; count < 15; count++ {
		for _, longest := range []int{1, 2, 70, 4000} {
			l := s.runs(count, longest)
			bytes, has := bytesOf(l), len(numbersOf(l))
			takes(t, bytes, has, l)
			for k := range len(bytes) {
				takesNone(t, bytes[:k], has, api.ErrForm)
				takesAsMeant(t, bytes[k+1:], has)
			}
			for _, behind := range []string{"\x00", "\x01", "\x02", "\x80", "\xff", "\x00\x00", "\x00\x02", "\x06\x02", "\x06\x00", "\x06\x01", "\x80\x01", "\x00\x00\x00", bytes} {
				takesNone(t, bytes+behind, has, api.ErrForm)
			}
		}
	}
}

// Runs that are cut off behind one are runs, of fewer numbers.
func TestTakeOfRunsThatAreCutOff(t *testing.T) {
	l := stir(8).runs(12, 90)
	for k, run := range l {
		takes(t, bytesOf(l[:k]), run.First, l[:k])
		takesNone(t, bytesOf(l[:k])+vint.Put(run.Val), run.First, api.ErrForm)
		takesNone(t, bytesOf(l[:k])+vint.Put(run.Val), run.First+run.Count, api.ErrForm)
	}
}

// Bytes that are none of a number of layer 2: with a needless group, with too many bits or bytes, cut off.
func TestTakeOfWrongNumbers(t *testing.T) {
	nines := strings.Repeat("\xff", 9)
	for _, number := range []string{"\x80\x00", "\x82\x00", "\x8e\x00", "\xff\x00", "\x80\x80\x00", "\x84\x80\x00", nines + "\x00", nines + "\x02", nines + "\x7f", nines + "\x80\x00", nines + "\x81\x01", strings.Repeat("\x80", 9) + "\x02", strings.Repeat("\x80", 10) + "\x01", strings.Repeat("\x80", 64), "\x80", "\xff", nines} {
		for n := range 10 {
			for _, behind := range []string{"", "\x06\x02", "\x06\x04"} {
				for _, ahead := range []string{"", "\x08\x02", "\x08\x04"} {
					for _, s := range []string{number + "\x02", number + "\x04", number + number, "\x0e" + number} {
						// Behind bytes that are cut off others might end the number.
						if number[len(number)-1] < 0x80 {
							takesNone(t, ahead+s+behind, n, api.ErrForm)
						} else {
							takesAsMeant(t, ahead+s+behind, n)
						}
					}
				}
			}
			takesNone(t, number, n, api.ErrForm)
			takesNone(t, "\x0e"+number, n, api.ErrForm)
			takesNone(t, "\x08\x02"+number, n, api.ErrForm)
			takesNone(t, "\x08\x02\x0e"+number, n, api.ErrForm)
		}
	}
}

// Counts that no run has, in the first run, in the last and in one between, whatever number the others would have with them.
func TestTakeOfWrongCountsInTheBytes(t *testing.T) {
	for _, count := range []int{0, -1, -2, -most, most + 1, 1 << 32, 1<<32 + 1, -1 << 32, math.MinInt, math.MinInt + 1, math.MaxInt, math.MaxInt - 1} {
		for at := range 3 {
			l := []api.Run{{Val: 7, Count: 2}, {Val: 3, Count: 3}, {Val: 7, Count: 4}}
			l[at].Count = count
			for n := range 12 {
				takesNone(t, bytesOf(l), n, api.ErrForm)
				takesNone(t, bytesOf(l[at:at+1]), n, api.ErrForm)
			}
			takesNone(t, bytesOf(l), most, api.ErrForm)
		}
	}
	// A Count below 0 between two others, and one that takes back what was too many.
	takesNone(t, bytesOf([]api.Run{{Val: 7, Count: 4}, {Val: 3, Count: -2}, {Val: 7, Count: 1}}), 3, api.ErrForm)
	takesNone(t, bytesOf([]api.Run{{Val: 7, Count: most + 3}, {Val: 3, Count: -most}}), 3, api.ErrForm)
	takesNone(t, bytesOf([]api.Run{{Val: 7, Count: 3}, {Val: 3, Count: 0}}), 3, api.ErrForm)
	takesNone(t, bytesOf([]api.Run{{Val: 7, Count: 0}, {Val: 3, Count: 3}}), 3, api.ErrForm)
	takesNone(t, bytesOf([]api.Run{{Val: 7, Count: math.MaxInt}, {Val: 3, Count: math.MaxInt}, {Val: 7, Count: 5}}), 3, api.ErrForm) // 2^64 and 3
}

func TestTakeOfTheValAhead(t *testing.T) {
	for _, val := range someNumbers {
		takesNone(t, bytesOf([]api.Run{{Val: val, Count: 1}, {Val: val, Count: 1}}), 2, api.ErrForm)
		takesNone(t, bytesOf([]api.Run{{Val: val, Count: 2}, {Val: val, Count: 1}, {Val: 9, Count: 1}}), 4, api.ErrForm)
		takesNone(t, bytesOf([]api.Run{{Val: 9, Count: 2}, {Val: val, Count: 1}, {Val: val, Count: 1}}), 4, api.ErrForm)
		l := []api.Run{{Val: val, Count: 1}, {Val: 9, First: 1, Count: 2}, {Val: val, First: 3, Count: 1}}
		takes(t, bytesOf(l), 4, l)
	}
	takesNone(t, "\x0e\x04\x0e\x02", 3, api.ErrForm)
}

// Any short bytes, with each small count.
func TestTakeOfAnyBytes(t *testing.T) {
	const letters = "\x00\x01\x02\x03\x04\x06\x7f\x80\x81\xff"
	all := []string{""}
	for first := 0; first < len(all) && len(all[first]) < 5; first++ {
		for k := range len(letters) {
			all = append(all, all[first]+letters[k:k+1])
		}
	}
	taken := 0
	for _, bytes := range all {
		for n := range 7 {
			if takesAsMeant(t, bytes, n) {
				taken++
			}
		}
		if t.Failed() {
			t.FailNow()
		}
	}
	if taken < 1000 {
		t.Errorf("%d alone were taken", taken)
	}
}

// The bytes of runs, of which one is another byte.
func TestTakeOfChangedBytes(t *testing.T) {
	s := stir(9)
	for range 200 {
		l := s.runs(1+s.below(8), 1+s.below(200))
		has := len(numbersOf(l))
		bytes := []byte(bytesOf(l))
		for at, b := range bytes {
			for bit := range 8 {
				for _, changed := range []byte{b ^ 1<<bit, b + 1<<bit, b - 1<<bit} {
					bytes[at] = changed
					takesAsMeant(t, string(bytes), has)
				}
			}
			bytes[at] = b
		}
	}
}

// Long bytes are given up where they can be no runs any more.
func TestTakeOfLongBytes(t *testing.T) {
	pair := "\x02\x02\x04\x02"
	whole, _ := runsIn(strings.Repeat(pair, most/2), most)
	takes(t, strings.Repeat(pair, most/2), most, whole)
	takesNone(t, strings.Repeat(pair, most/2)+"\x02\x02", most, api.ErrForm)
	for _, n := range []int{0, 1, 2, most - 1, most} {
		takesNone(t, strings.Repeat(pair, 1<<22), n, api.ErrForm)
		takesNone(t, strings.Repeat("\x80", 1<<24), n, api.ErrForm)
		takesNone(t, strings.Repeat("\x00", 1<<24), n, api.ErrForm)
	}
}

// Ru3

// Of goes back, by numbers and by bytes, and has so many runs as there are places at which a number is another one than the one ahead, and one; of no numbers there are none.
func TestOfGoesBack(t *testing.T) {
	s := stir(10)
	for k := range 20000 {
		numbers := make([]int, s.below(40))
		for k := range numbers {
			numbers[k] = someNumbers[s.below(1+s.below(len(someNumbers)))]
		}
		if k == 0 {
			numbers = make([]int, most)
			for k := range numbers {
				numbers[k] = s.below(3)
			}
		}
		want := min(len(numbers), 1)
		for k := 1; k < len(numbers); k++ {
			if numbers[k] != numbers[k-1] {
				want++
			}
		}
		l := Of(numbers)
		if len(l) != want || !areRuns(l) {
			t.Fatalf("Of(%d..): %d.., %d runs, not %d", short(numbers), short(l), len(l), want)
		}
		if back, errno := Flat(l); !slices.Equal(back, numbers) || errno != api.OK {
			t.Fatalf("Flat(Of(%d..)): %d.., %d", short(numbers), short(back), errno)
		}
		put, errno := Put(l)
		if errno != api.OK {
			t.Fatalf("Put(Of(%d..)): %d", short(numbers), errno)
		}
		takes(t, put, len(numbers), l)
	}
}

func TestFlatGoesBack(t *testing.T) {
	s := stir(11)
	for range 2000 {
		l := s.runs(s.below(12), 1+s.below(50))
		numbers, errno := Flat(l)
		if errno != api.OK || !slices.Equal(Of(numbers), l) {
			t.Fatalf("Of(Flat(%d)): %d, %d", l, Of(numbers), errno)
		}
		for at, number := range numbers {
			if k, errno := Find(l, at); errno != api.OK || l[k].Val != number || at < l[k].First || at >= l[k].First+l[k].Count {
				t.Fatalf("Find(%d, %d): %d, %d", l, at, k, errno)
			}
		}
	}
}

func TestWhatIsTakenIsPut(t *testing.T) {
	s := stir(12)
	taken := 0
	for range 200000 {
		bytes := make([]byte, s.below(7))
		for k := range bytes {
			bytes[k] = byte(s.below(1 << (1 + s.below(8))))
		}
		n := s.below(9)
		if l, errno := Take(string(bytes), n); errno == api.OK {
			taken++
			puts(t, l, string(bytes))
			if numbers, errno := Flat(l); errno != api.OK || len(numbers) != n {
				t.Fatalf("Take(%x, %d): %d, of %d numbers", bytes, n, l, len(numbers))
			}
		}
	}
	if taken < 1000 {
		t.Errorf("%d alone were taken", taken)
	}
}

// R1 to R4

// What is handed in stays as it is, and what lies behind its end is not read.
func TestRulesOfArguments(t *testing.T) {
	numbers := []int{7, 7, 3, 3, 9}
	goes(t, numbers[:3], []api.Run{{Val: 7, Count: 2}, {Val: 3, First: 2, Count: 1}}, "\x0e\x04\x06\x02")
	goes(t, numbers[:1], []api.Run{{Val: 7, Count: 1}}, "\x0e\x02")
	goes(t, numbers[:0], nil, "")
	goes(t, numbers[2:4], []api.Run{{Val: 3, Count: 2}}, "\x06\x04")
	if !slices.Equal(numbers, []int{7, 7, 3, 3, 9}) {
		t.Errorf("the numbers became %d", numbers)
	}

	l := []api.Run{{Val: 7, Count: 2}, {Val: 3, First: 2, Count: 1}, {Val: 3, First: 9, Count: -1}}
	refused(t, l)
	refused(t, l[1:2])
	goes(t, []int{7, 7, 3}, l[:2], "\x0e\x04\x06\x02")
	goes(t, []int{7, 7}, l[:1], "\x0e\x04")
	goes(t, nil, l[:0], "")
	findsAll(t, l[:2])
	findsAll(t, l[:1])
	findsAll(t, l[:0])
	if !slices.Equal(l, []api.Run{{Val: 7, Count: 2}, {Val: 3, First: 2, Count: 1}, {Val: 3, First: 9, Count: -1}}) {
		t.Errorf("the runs became %d", l)
	}

	long := "\xff\x0e\x04\x06\x02\x00"
	takes(t, long[1:5], 3, l[:2])
	takes(t, long[1:3], 2, l[:1])
	takesNone(t, long[1:4], 3, api.ErrForm)
}

// What is answered is new memory.
func TestRulesOfAnswers(t *testing.T) {
	numbers, want, bytes := []int{7, 7, 3}, []api.Run{{Val: 7, Count: 2}, {Val: 3, First: 2, Count: 1}}, "\x0e\x04\x06\x02"
	made, again := Of(numbers), Of(numbers)
	taken, takenAgain := Take(bytes, 3)
	other, _ := Take(bytes, 3)
	flat, _ := Flat(want)
	otherFlat, _ := Flat(want)
	clear(made)
	clear(taken)
	clear(flat)
	_ = append(made[:1], api.Run{Val: 9}, api.Run{Val: 9})
	_ = append(taken[:1], api.Run{Val: 9}, api.Run{Val: 9})
	_ = append(flat[:1], 9, 9, 9)
	if !slices.Equal(again, want) || !slices.Equal(other, want) || !slices.Equal(otherFlat, []int{7, 7, 3}) || takenAgain != api.OK {
		t.Errorf("two answers share memory: %d, %d, %d", again, other, otherFlat)
	}
	goes(t, numbers, want, bytes)
}

// No call panics, whatever it is given, and the same is answered again; beside an error there is nothing.
func TestAnyArguments(t *testing.T) {
	s := stir(13)
	parts := slices.Concat(wrongCounts, []int{0, 0, 0, 1, 1, 1, 2, 2, 3, 4, most - 1, most})
	part := func() int { return parts[s.below(len(parts))] }
	for range 50000 {
		bytes := make([]byte, s.below(14))
		for k := range bytes {
			bytes[k] = byte(s.below(1 << (1 + s.below(8))))
		}
		l := make([]api.Run, s.below(5))
		for k := range l {
			l[k] = api.Run{Val: part(), First: part(), Count: part()}
		}
		n, at := part(), part()
		put, noPut := Put(l)
		flat, noFlat := Flat(l)
		found, noFound := Find(l, at)
		taken, noTaken := Take(string(bytes), n)
		if areRuns(l) != (noPut == api.OK) || noPut != noFlat || noPut == api.OK && (put != bytesOf(l) || !slices.Equal(flat, numbersOf(l))) {
			t.Fatalf("of %d: %x.., %d; %d.., %d", l, short([]byte(put)), noPut, short(flat), noFlat)
		}
		if noPut != api.OK && (noPut != api.ErrArg || noFound != api.ErrArg || put != "" || len(flat) != 0 || found != 0) {
			t.Fatalf("of %d: %x, %d; %d.., %d; at %d: %d, %d", l, put, noPut, short(flat), noFlat, at, found, noFound)
		}
		if n < 0 || n > most {
			takesNone(t, string(bytes), n, api.ErrArg)
		} else {
			takesAsMeant(t, string(bytes), n)
		}
		if again, errno := Find(l, at); again != found || errno != noFound {
			t.Fatalf("Find(%d, %d): %d, %d, then %d, %d", l, at, found, noFound, again, errno)
		}
		if again, errno := Take(string(bytes), n); !slices.Equal(again, taken) || errno != noTaken {
			t.Fatalf("Take(%x, %d): %d, %d, then %d, %d", bytes, n, taken, noTaken, again, errno)
		}
	}
}
