package extent

import (
	"math"
	"peristyle/api"
	"slices"
	"strconv"
	"strings"
	"testing"
)

// of is an extent.
func of(first, count int) api.Extent { return api.Extent{First: first, Count: count} }

// made is a map of n blocks.
func made(t *testing.T, n int) *Map {
	t.Helper()
	m, errno := New(n)
	if m == nil || errno != api.OK {
		t.Fatalf("New(%d): %v, %d", n, m, errno)
	}
	return m
}

// taken is a map of n blocks, of which some extents are taken.
func taken(t *testing.T, n int, extents ...api.Extent) *Map {
	t.Helper()
	m := made(t, n)
	for _, e := range extents {
		takes(t, m, e, api.OK)
	}
	return m
}

// takes fails if Take answers another error.
func takes(t *testing.T, m *Map, e api.Extent, want api.Errno) {
	t.Helper()
	if got := m.Take(e); got != want {
		t.Errorf("Take %v: %d, not %d", e, got, want)
	}
}

// frees fails if Free answers another error.
func frees(t *testing.T, m *Map, e api.Extent, want api.Errno) {
	t.Helper()
	if got := m.Free(e); got != want {
		t.Errorf("Free %v: %d, not %d", e, got, want)
	}
}

// allocs fails if Alloc tells another extent.
func allocs(t *testing.T, m *Map, count int, want api.Extent) {
	t.Helper()
	if got, errno := m.Alloc(count); got != want || errno != api.OK {
		t.Errorf("Alloc %d: %v, %d, not %v", count, got, errno, want)
	}
}

// refuses fails if Alloc does not answer this error, and no extent.
func refuses(t *testing.T, m *Map, count int, want api.Errno) {
	t.Helper()
	if got, errno := m.Alloc(count); got != (api.Extent{}) || errno != want {
		t.Errorf("Alloc %d: %v, %d, not %d", count, got, errno, want)
	}
}

// open fails if other extents are free, or Left and Longest do not go with them.
func open(t *testing.T, m *Map, want ...api.Extent) {
	t.Helper()
	left, longest := 0, 0
	for _, e := range want {
		left += e.Count
		longest = max(longest, e.Count)
	}
	if got := m.Holes(); !slices.Equal(got, want) {
		t.Errorf("Holes: %v, not %v", got, want)
	}
	if m.Left() != left || m.Longest() != longest {
		t.Errorf("Left %d, Longest %d, not %d and %d", m.Left(), m.Longest(), left, longest)
	}
}

// Ex1

func TestNewTakesOneToMaxBlocks(t *testing.T) {
	for _, n := range []int{math.MinInt, -4096, -2, -1, 0, 4097, 4098, 1 << 16, 1 << 32, math.MaxInt} {
		if m, errno := New(n); m != nil || errno != api.ErrArg {
			t.Errorf("New(%d): %v, %d", n, m, errno)
		}
	}
	for _, n := range []int{1, 2, 3, 63, 64, 65, 127, 128, 4095, 4096} {
		open(t, made(t, n), of(0, n))
	}
}

// Each extent that lies beside the map is refused, whatever is taken there.
func TestExtentsThatMayNotBe(t *testing.T) {
	numbers := []int{math.MinInt, math.MinInt + 1, -1 << 32, -4096, -2, -1, 0, 1, 2, 3, 4, 5, 6, 7, 4095, 4096, 4097, 1 << 32, 1<<32 + 1, 1 << 62, math.MaxInt - 1, math.MaxInt}
	const n = 5
	for _, first := range numbers {
		for _, count := range numbers {
			e := of(first, count)
			if first >= 0 && first < n && count >= 1 && count <= n && first+count <= n {
				continue
			}
			free, full := made(t, n), taken(t, n, of(0, n))
			takes(t, free, e, api.ErrArg)
			frees(t, free, e, api.ErrArg)
			open(t, free, of(0, n))
			takes(t, full, e, api.ErrArg)
			frees(t, full, e, api.ErrArg)
			open(t, full)
		}
	}
}

func TestExtentsAtTheEnds(t *testing.T) {
	for _, n := range []int{1, 2, 4095, 4096} {
		m := made(t, n)
		for _, e := range []api.Extent{of(0, n), of(0, 1), of(n-1, 1)} {
			frees(t, m, e, api.ErrNone)
			takes(t, m, e, api.OK)
			takes(t, m, e, api.ErrNone)
			frees(t, m, e, api.OK)
			frees(t, m, e, api.ErrNone)
			open(t, m, of(0, n))
		}
		for _, e := range []api.Extent{of(0, 0), of(0, -1), of(0, n+1), of(1, n), of(-1, 1), of(-1, n), of(n-1, 2), of(n, 1), of(n, 0), of(n+1, 1), of(n-1, math.MaxInt), of(math.MaxInt, 1), of(math.MaxInt, math.MaxInt), of(math.MinInt, math.MinInt), of(math.MinInt, math.MaxInt)} {
			takes(t, m, e, api.ErrArg)
			frees(t, m, e, api.ErrArg)
		}
		open(t, m, of(0, n))
	}
}

// An extent that may not be is told ahead of its blocks being taken, or not.
func TestErrArgIsToldFirst(t *testing.T) {
	m := taken(t, 6, of(2, 2))
	for _, e := range []api.Extent{of(2, 5), of(2, 0), of(-1, 4), of(2, math.MaxInt)} {
		takes(t, m, e, api.ErrArg)
	}
	for _, e := range []api.Extent{of(4, 3), of(0, 0), of(-1, 2), of(5, math.MaxInt)} {
		frees(t, m, e, api.ErrArg)
	}
	open(t, m, of(0, 2), of(4, 2))
}

// An extent of 4 blocks, of which one or some are taken: at its head, in its midst and at its end.
func TestTakeOfWhatIsTakenInPart(t *testing.T) {
	for _, there := range []api.Extent{of(4, 1), of(3, 2), of(5, 1), of(5, 2), of(6, 1), of(7, 1), of(7, 2), of(0, 5), of(7, 3), of(4, 4), of(3, 6), of(4, 3), of(5, 3), of(0, 10)} {
		m := taken(t, 10, there)
		before := m.Holes()
		takes(t, m, of(4, 4), api.ErrNone)
		open(t, m, before...)
	}
	for _, there := range []api.Extent{of(0, 4), of(3, 1), of(8, 1), of(8, 2)} {
		m := taken(t, 10, there)
		before := m.Left()
		takes(t, m, of(4, 4), api.OK)
		if m.Left() != before-4 {
			t.Errorf("beside %v: Left %d, not %d", there, m.Left(), before-4)
		}
	}
	m := taken(t, 10, of(4, 1), of(7, 1))
	takes(t, m, of(4, 4), api.ErrNone)
	takes(t, m, of(5, 2), api.OK)
	open(t, m, of(0, 4), of(8, 2))
}

// An extent of 4 blocks, of which one or some are free: at its head, in its midst and at its end.
func TestFreeOfWhatIsTakenInPart(t *testing.T) {
	for _, hole := range []api.Extent{of(4, 1), of(3, 2), of(5, 1), of(5, 2), of(6, 1), of(7, 1), of(7, 2), of(0, 5), of(7, 3), of(4, 4), of(3, 6), of(4, 3), of(5, 3), of(0, 10)} {
		m := taken(t, 10, of(0, 10))
		frees(t, m, hole, api.OK)
		frees(t, m, of(4, 4), api.ErrNone)
		open(t, m, hole)
	}
	for _, hole := range []api.Extent{of(0, 4), of(3, 1), of(8, 1), of(8, 2)} {
		m := taken(t, 10, of(0, 10))
		frees(t, m, hole, api.OK)
		frees(t, m, of(4, 4), api.OK)
		if m.Left() != hole.Count+4 {
			t.Errorf("beside %v: Left %d, not %d", hole, m.Left(), hole.Count+4)
		}
	}
	m := taken(t, 10, of(0, 10))
	frees(t, m, of(4, 1), api.OK)
	frees(t, m, of(7, 1), api.OK)
	frees(t, m, of(4, 4), api.ErrNone)
	frees(t, m, of(5, 2), api.OK)
	open(t, m, of(4, 4))
}

// What is let free need not be what was taken at once.
func TestFreeOfOtherExtentsThanWereTaken(t *testing.T) {
	m := taken(t, 8, of(1, 3), of(4, 3))
	frees(t, m, of(2, 4), api.OK)
	open(t, m, of(0, 1), of(2, 4), of(7, 1))
	frees(t, m, of(1, 1), api.OK)
	open(t, m, of(0, 6), of(7, 1))
	frees(t, m, of(6, 1), api.OK)
	open(t, m, of(0, 8))
}

func TestAllocOfNoBlocks(t *testing.T) {
	for _, m := range []*Map{made(t, 4), taken(t, 4, of(1, 1)), taken(t, 4, of(0, 4))} {
		before := m.Holes()
		for _, count := range []int{math.MinInt, -1 << 32, -4, -1, 0} {
			refuses(t, m, count, api.ErrArg)
		}
		open(t, m, before...)
	}
}

func TestAllocOfTheLongestHoleAndOfOneMore(t *testing.T) {
	m := taken(t, 12, of(2, 1), of(7, 1)) // holes of 2, of 4 and of 4
	for _, count := range []int{5, 6, 10, 12, 13, 4096, 4097, 1 << 32, math.MaxInt} {
		refuses(t, m, count, api.ErrFull)
	}
	open(t, m, of(0, 2), of(3, 4), of(8, 4))
	allocs(t, m, 4, of(3, 4))
	refuses(t, m, 5, api.ErrFull)
	allocs(t, m, 4, of(8, 4))
	refuses(t, m, 4, api.ErrFull)
	refuses(t, m, 3, api.ErrFull)
	allocs(t, m, 2, of(0, 2))
	open(t, m)
	for _, count := range []int{1, 2, math.MaxInt} {
		refuses(t, m, count, api.ErrFull)
	}
}

func TestAllocOfAllBlocks(t *testing.T) {
	for _, n := range []int{1, 2, 4096} {
		m := made(t, n)
		refuses(t, m, n+1, api.ErrFull)
		allocs(t, m, n, of(0, n))
		open(t, m)
		refuses(t, m, 1, api.ErrFull)
		frees(t, m, of(0, n), api.OK)
		open(t, m, of(0, n))
	}
}

// The hole with the least First is taken: not the one that fits best, nor the longest one.
func TestAllocTakesTheFirstHoleThatIsLongEnough(t *testing.T) {
	holes := []*Map{taken(t, 12, of(3, 1), of(6, 1)), taken(t, 12, of(2, 1), of(8, 1)), taken(t, 12, of(5, 1), of(8, 1))}
	for k, want := range []api.Extent{of(0, 2), of(0, 2), of(0, 2)} {
		allocs(t, holes[k].Copy(), 2, want)
	}
	for k, want := range []api.Extent{of(0, 3), of(3, 3), of(0, 3)} { // of 3, 2, 5; of 2, 5, 3; of 5, 2, 3
		allocs(t, holes[k].Copy(), 3, want)
	}
	for k, want := range []api.Extent{of(7, 4), of(3, 4), of(0, 4)} {
		allocs(t, holes[k].Copy(), 4, want)
	}
	m := holes[0]
	allocs(t, m, 1, of(0, 1))
	allocs(t, m, 3, of(7, 3))
	allocs(t, m, 2, of(1, 2))
	allocs(t, m, 1, of(4, 1))
	open(t, m, of(5, 1), of(10, 2))
	frees(t, m, of(0, 1), api.OK)
	allocs(t, m, 1, of(0, 1))
}

func TestAllocGoesByTheBlocksOneByOne(t *testing.T) {
	m := made(t, 4096)
	for at := range 4096 {
		allocs(t, m, 1, of(at, 1))
	}
	refuses(t, m, 1, api.ErrFull)
}

// Ex2

func TestTheChaptersExample(t *testing.T) {
	m := made(t, 4)
	allocs(t, m, 2, of(0, 2))
	allocs(t, m, 1, of(2, 1))
	frees(t, m, of(0, 2), api.OK)
	open(t, m, of(0, 2), of(3, 1))
}

// What lies between is let free: the hole in front, the hole behind, both, or none grows.
func TestHolesGrowTogether(t *testing.T) {
	for _, c := range []struct {
		free api.Extent
		want []api.Extent
	}{
		{of(3, 4), []api.Extent{of(1, 8), of(11, 1)}},
		{of(3, 3), []api.Extent{of(1, 5), of(7, 2), of(11, 1)}},
		{of(4, 3), []api.Extent{of(1, 2), of(4, 5), of(11, 1)}},
		{of(4, 2), []api.Extent{of(1, 2), of(4, 2), of(7, 2), of(11, 1)}},
		{of(3, 1), []api.Extent{of(1, 3), of(7, 2), of(11, 1)}},
		{of(6, 1), []api.Extent{of(1, 2), of(6, 3), of(11, 1)}},
		{of(0, 1), []api.Extent{of(0, 3), of(7, 2), of(11, 1)}},
		{of(9, 2), []api.Extent{of(1, 2), of(7, 5)}},
		{of(12, 1), []api.Extent{of(1, 2), of(7, 2), of(11, 2)}},
		{of(13, 1), []api.Extent{of(1, 2), of(7, 2), of(11, 1), of(13, 1)}},
		{of(12, 2), []api.Extent{of(1, 2), of(7, 2), of(11, 3)}},
	} {
		m := taken(t, 14, of(0, 1), of(3, 4), of(9, 2), of(12, 2)) // holes 1 2, 7 2, 11 1
		open(t, m, of(1, 2), of(7, 2), of(11, 1))
		frees(t, m, c.free, api.OK)
		open(t, m, c.want...)
	}
}

func TestTakeCutsHoles(t *testing.T) {
	for _, c := range []struct {
		take api.Extent
		want []api.Extent
	}{
		{of(0, 3), []api.Extent{of(4, 4), of(9, 1)}},
		{of(0, 1), []api.Extent{of(1, 2), of(4, 4), of(9, 1)}},
		{of(1, 1), []api.Extent{of(0, 1), of(2, 1), of(4, 4), of(9, 1)}},
		{of(2, 1), []api.Extent{of(0, 2), of(4, 4), of(9, 1)}},
		{of(4, 4), []api.Extent{of(0, 3), of(9, 1)}},
		{of(4, 2), []api.Extent{of(0, 3), of(6, 2), of(9, 1)}},
		{of(5, 2), []api.Extent{of(0, 3), of(4, 1), of(7, 1), of(9, 1)}},
		{of(6, 2), []api.Extent{of(0, 3), of(4, 2), of(9, 1)}},
		{of(9, 1), []api.Extent{of(0, 3), of(4, 4)}},
	} {
		m := taken(t, 10, of(3, 1), of(8, 1))
		open(t, m, of(0, 3), of(4, 4), of(9, 1))
		takes(t, m, c.take, api.OK)
		open(t, m, c.want...)
	}
}

// Each second block of the greatest map: as many holes as there can be.
func TestAsManyHolesAsThereCanBe(t *testing.T) {
	m := made(t, 4096)
	var want []api.Extent
	for at := 0; at < 4096; at += 2 {
		takes(t, m, of(at, 1), api.OK)
		want = append(want, of(at+1, 1))
	}
	open(t, m, want...)
	refuses(t, m, 2, api.ErrFull)
	frees(t, m, of(2048, 1), api.OK)
	allocs(t, m, 3, of(2047, 3))
	refuses(t, m, 2, api.ErrFull)
	allocs(t, m, 1, of(1, 1))
}

func TestForOfBytes(t *testing.T) {
	for bytes, want := range map[int]int{
		math.MinInt: 0, math.MinInt + 1: 0, -1 << 32: 0, -129: 0, -128: 0, -127: 0, -1: 0, 0: 0,
		1: 1, 2: 1, 127: 1, 128: 1, 129: 2, 130: 2, 255: 2, 256: 2, 257: 3, 1 << 14: 128, 1<<14 + 1: 129,
		1 << 32: 1 << 25, 1<<32 + 1: 1<<25 + 1, 1 << 62: 1 << 55,
		math.MaxInt - 128: 1<<56 - 1, math.MaxInt - 127: 1<<56 - 1, math.MaxInt - 126: 1 << 56, math.MaxInt - 1: 1 << 56, math.MaxInt: 1 << 56,
	} {
		if got := For(bytes); got != want {
			t.Errorf("For(%d): %d, not %d", bytes, got, want)
		}
	}
	held := 0
	for bytes := range 20000 {
		if bytes > held*api.BlockSize {
			held++
		}
		if got := For(bytes); got != held {
			t.Fatalf("For(%d): %d, not %d", bytes, got, held)
		}
	}
}

// A copy, and what it was made of, go their own ways: one is changed by each call, the other stays.
func TestACopyGoesItsOwnWay(t *testing.T) {
	changes := map[string]func(m *Map){
		"Alloc a hole": func(m *Map) { allocs(t, m, 2, of(0, 2)) },
		"Alloc a part": func(m *Map) { allocs(t, m, 1, of(0, 1)) },
		"Take a midst": func(m *Map) { takes(t, m, of(5, 1), api.OK) },
		"Take a hole":  func(m *Map) { takes(t, m, of(4, 3), api.OK) },
		"Free between": func(m *Map) { frees(t, m, of(2, 2), api.OK) },
		"Free beside":  func(m *Map) { frees(t, m, of(7, 1), api.OK) },
		"Free alone":   func(m *Map) { frees(t, m, of(8, 1), api.OK) },
	}
	for name, change := range changes {
		for _, copyChanges := range []bool{true, false} {
			m := taken(t, 10, of(2, 2), of(7, 3)) // holes 0 2, 4 3
			changed, stays := m, m.Copy()
			if copyChanges {
				changed, stays = stays, changed
			}
			open(t, stays, of(0, 2), of(4, 3))
			open(t, changed, of(0, 2), of(4, 3))
			change(changed)
			open(t, stays, of(0, 2), of(4, 3))
			if slices.Equal(changed.Holes(), stays.Holes()) {
				t.Errorf("%s: no change", name)
			}
			after := changed.Holes()
			takes(t, stays, of(0, 1), api.OK)
			takes(t, stays, of(5, 2), api.OK)
			frees(t, stays, of(9, 1), api.OK)
			open(t, stays, of(1, 1), of(4, 1), of(9, 1))
			open(t, changed, after...)
		}
	}
}

// A copy is of as many blocks, and whole: copies of a copy, of a full map and of a great one.
func TestACopyIsTheSame(t *testing.T) {
	for _, m := range []*Map{made(t, 1), taken(t, 1, of(0, 1)), made(t, 4096), taken(t, 4096, of(0, 4096)), taken(t, 7, of(0, 2), of(6, 1))} {
		c := m.Copy().Copy()
		if c == nil || c == m {
			t.Fatalf("Copy: %v", c)
		}
		open(t, c, m.Holes()...)
		for first := -1; first <= 8; first++ {
			for count := range 9 {
				e := of(first, count)
				if got, want := c.Copy().Take(e), m.Copy().Take(e); got != want {
					t.Errorf("Take %v: %d of a copy, %d", e, got, want)
				}
				if got, want := c.Copy().Free(e), m.Copy().Free(e); got != want {
					t.Errorf("Free %v: %d of a copy, %d", e, got, want)
				}
			}
		}
	}
}

// Ex3, and all promises against a model

// model is the words of the chapter, block by block.
type model []bool // of each block, whether it is taken

func (m model) mayBe(e api.Extent) bool {
	return e.Count >= 1 && e.First >= 0 && e.First < len(m) && e.Count <= len(m) && e.First+e.Count <= len(m)
}

// all tells whether all blocks of an extent are taken, or all are not.
func (m model) all(e api.Extent, is bool) bool {
	for at := e.First; at < e.First+e.Count; at++ {
		if m[at] != is {
			return false
		}
	}
	return true
}

func (m model) turn(e api.Extent, from bool) api.Errno {
	if !m.mayBe(e) {
		return api.ErrArg
	}
	if !m.all(e, from) {
		return api.ErrNone
	}
	for at := e.First; at < e.First+e.Count; at++ {
		m[at] = !from
	}
	return api.OK
}

func (m model) alloc(count int) (api.Extent, api.Errno) {
	if count < 1 {
		return api.Extent{}, api.ErrArg
	}
	for first := range m {
		if e := of(first, count); m.mayBe(e) && m.turn(e, false) == api.OK {
			return e, api.OK
		}
	}
	return api.Extent{}, api.ErrFull
}

func (m model) holes() []api.Extent {
	var holes []api.Extent
	for at := range m {
		switch {
		case m[at]:
		case at > 0 && !m[at-1]:
			holes[len(holes)-1].Count++
		default:
			holes = append(holes, of(at, 1))
		}
	}
	return holes
}

func (m model) String() string {
	var text strings.Builder
	for _, is := range m {
		text.WriteString(map[bool]string{true: "x", false: "."}[is])
	}
	return text.String()
}

// alike fails if a map answers otherwise than its model, or its answers do not go together.
func alike(t *testing.T, m *Map, is model, what string) {
	t.Helper()
	holes := is.holes()
	left, longest := 0, 0
	for _, hole := range holes {
		left += hole.Count
		longest = max(longest, hole.Count)
	}
	if got := m.Holes(); !slices.Equal(got, holes) || m.Left() != left || m.Longest() != longest {
		t.Fatalf("%s, then %v: Holes %v, Left %d, Longest %d", what, is, got, m.Left(), m.Longest())
	}
}

// stateOf is a map, and its model, of n blocks, of which those are taken whose bits are set; by taking one by one, or by letting the others free.
func stateOf(t *testing.T, n, bits int, byFree bool) (*Map, model) {
	t.Helper()
	m, is := made(t, n), make(model, n)
	if byFree {
		takes(t, m, of(0, n), api.OK)
	}
	for k := range n {
		at := (k*11 + 3) % n // each block once, as 11 and an n below 11 share no divisor
		is[at] = bits>>at&1 == 1
		if is[at] && !byFree {
			takes(t, m, of(at, 1), api.OK)
		}
		if !is[at] && byFree {
			frees(t, m, of(at, 1), api.OK)
		}
	}
	alike(t, m, is, "made")
	return m, is
}

// Each call, on each state that a small map can have.
func TestAllCallsOnAllSmallMaps(t *testing.T) {
	for n := 1; n <= 8; n++ {
		for bits := range 1 << n {
			m, is := stateOf(t, n, bits, bits%2 == 0)
			for first := -1; first <= n+1; first++ {
				for count := -1; count <= n+1; count++ {
					e := of(first, count)
					got, meant := m.Copy(), slices.Clone(is)
					what := is.String() + " Take " + strconv.Itoa(first) + " " + strconv.Itoa(count)
					if a, b := got.Take(e), meant.turn(e, false); a != b {
						t.Fatalf("%s: %d, not %d", what, a, b)
					}
					alike(t, got, meant, what)
					got, meant = m.Copy(), slices.Clone(is)
					what = is.String() + " Free " + strconv.Itoa(first) + " " + strconv.Itoa(count)
					if a, b := got.Free(e), meant.turn(e, true); a != b {
						t.Fatalf("%s: %d, not %d", what, a, b)
					}
					alike(t, got, meant, what)
				}
			}
			for count := -1; count <= n+1; count++ {
				got, meant := m.Copy(), slices.Clone(is)
				what := is.String() + " Alloc " + strconv.Itoa(count)
				x, a := got.Alloc(count)
				y, b := meant.alloc(count)
				if x != y || a != b {
					t.Fatalf("%s: %v, %d, not %v, %d", what, x, a, y, b)
				}
				alike(t, got, meant, what)
			}
			alike(t, m, is, "behind its copies")
		}
	}
}

// However a state was come to, the map is the same.
func TestAStateIsTheSameByEachWay(t *testing.T) {
	for n := 1; n <= 9; n++ {
		for bits := range 1 << n {
			a, _ := stateOf(t, n, bits, false)
			b, _ := stateOf(t, n, bits, true)
			for count := 1; count <= n; count++ {
				x, errno := a.Copy().Alloc(count)
				y, other := b.Copy().Alloc(count)
				if x != y || errno != other {
					t.Fatalf("Alloc %d: %v, %d and %v, %d", count, x, errno, y, other)
				}
			}
		}
	}
}

// What is taken and let free again, and what is let free and taken again, leaves the map as it was.
func TestThereAndBackLeavesTheMap(t *testing.T) {
	for n := 1; n <= 7; n++ {
		for bits := range 1 << n {
			m, is := stateOf(t, n, bits, false)
			for first := range n {
				for count := 1; first+count <= n; count++ {
					e := of(first, count)
					switch api.OK {
					case m.Take(e):
						frees(t, m, e, api.OK)
					case m.Free(e):
						takes(t, m, e, api.OK)
					}
					alike(t, m, is, "there and back")
				}
			}
			for count := 1; count <= n; count++ {
				if e, errno := m.Alloc(count); errno == api.OK {
					frees(t, m, e, api.OK)
				}
				alike(t, m, is, "Alloc and back")
			}
		}
	}
}

// Alloc refuses what is longer than Longest, and nothing else.
func TestAllocRefusesOnlyWhatIsLongerThanLongest(t *testing.T) {
	for bits := range 1 << 9 {
		m, _ := stateOf(t, 9, bits, true)
		longest := m.Longest()
		for count := 1; count <= 11; count++ {
			e, errno := m.Copy().Alloc(count)
			if (errno == api.OK) != (count <= longest) || errno != api.OK && errno != api.ErrFull {
				t.Fatalf("Longest %d: Alloc %d: %v, %d", longest, count, e, errno)
			}
		}
	}
}

// stirrer gives numbers by a fixed rule.
type stirrer struct{ word uint64 }

func stir(seed int) *stirrer { return &stirrer{uint64(seed)*2 + 1} }

func (s *stirrer) below(n int) int {
	s.word = s.word*6364136223846793005 + 1442695040888963407
	return int(s.word >> 33 % uint64(n))
}

// Long scripts of all calls, against the model.
func TestLongScripts(t *testing.T) {
	for seed, n := range []int{1, 2, 3, 5, 8, 13, 40, 64, 100, 300, 1000, 4096} {
		s := stir(seed)
		m, is := made(t, n), make(model, n)
		for range 1500 {
			e := of(s.below(n+2)-1, s.below(1+s.below(n+2))) // short ones more often
			var got, want api.Errno
			var x, y api.Extent
			switch s.below(6) {
			case 0, 1:
				got, want = m.Take(e), is.turn(e, false)
			case 2, 3:
				got, want = m.Free(e), is.turn(e, true)
			case 4:
				x, got = m.Alloc(e.Count)
				y, want = is.alloc(e.Count)
			case 5:
				m = m.Copy()
			}
			if got != want || x != y {
				t.Fatalf("%v: %v, %d, not %v, %d", e, x, got, y, want)
			}
			alike(t, m, is, "a script")
		}
	}
}

// No block is told twice by Alloc as long as it is not free; all that is told is let free in the end.
func TestNoBlockIsToldTwice(t *testing.T) {
	for seed := range 20 {
		s := stir(seed)
		n := 1 + s.below(200)
		m := made(t, n)
		held := make([]int, n) // of each block, how many of the extents that are held have it
		var extents []api.Extent
		for range 400 {
			if e, errno := m.Alloc(1 + s.below(9)); errno == api.OK {
				extents = append(extents, e)
				for at := e.First; at < e.First+e.Count; at++ {
					if held[at]++; held[at] > 1 {
						t.Fatalf("block %d of %v was told twice", at, e)
					}
				}
			}
			if len(extents) > 0 && s.below(3) == 0 {
				k := s.below(len(extents))
				e := extents[k]
				frees(t, m, e, api.OK)
				extents = slices.Delete(extents, k, k+1)
				for at := e.First; at < e.First+e.Count; at++ {
					held[at]--
				}
			}
		}
		for _, e := range extents {
			frees(t, m, e, api.OK)
		}
		open(t, m, of(0, n))
	}
}

// R1 to R4

func TestMapsThatNewDidNotGive(t *testing.T) {
	refused, _ := New(0)
	for name, m := range map[string]*Map{"nil": nil, "empty": {}, "new": new(Map), "of a New that was refused": refused} {
		for range 2 {
			if m.Left() != 0 || m.Longest() != 0 || len(m.Holes()) != 0 || m.Copy() != nil {
				t.Errorf("%s: Left %d, Longest %d, Holes %v, Copy %v", name, m.Left(), m.Longest(), m.Holes(), m.Copy())
			}
			for _, first := range []int{math.MinInt, -1, 0, 1, math.MaxInt} {
				refuses(t, m, first, api.ErrArg)
				for _, count := range []int{math.MinInt, -1, 0, 1, 2, math.MaxInt} {
					takes(t, m, of(first, count), api.ErrArg)
					frees(t, m, of(first, count), api.ErrArg)
				}
			}
		}
	}
}

func TestCallsThatAreRefusedChangeNothing(t *testing.T) {
	m := taken(t, 10, of(0, 1), of(4, 3), of(9, 1))
	for range 3 {
		takes(t, m, of(3, 2), api.ErrNone)
		takes(t, m, of(6, 2), api.ErrNone)
		takes(t, m, of(1, 8), api.ErrNone)
		takes(t, m, of(1, 10), api.ErrArg)
		frees(t, m, of(3, 2), api.ErrNone)
		frees(t, m, of(6, 2), api.ErrNone)
		frees(t, m, of(0, 10), api.ErrNone)
		frees(t, m, of(4, -1), api.ErrArg)
		refuses(t, m, 4, api.ErrFull)
		refuses(t, m, 0, api.ErrArg)
		open(t, m, of(1, 3), of(7, 2))
	}
}

func TestHolesAreNewMemory(t *testing.T) {
	m := taken(t, 9, of(2, 1), of(5, 1))
	first, second := m.Holes(), m.Holes()
	first[0], first[1] = of(7, 7), of(-1, 0)
	_ = append(first[:1], of(8, 8), of(9, 9), of(10, 10))
	if !slices.Equal(second, []api.Extent{of(0, 2), of(3, 2), of(6, 3)}) {
		t.Errorf("two answers of Holes share memory: %v", second)
	}
	open(t, m, of(0, 2), of(3, 2), of(6, 3))
	takes(t, m, of(0, 2), api.OK)
	frees(t, m, of(5, 1), api.OK)
	takes(t, m, of(7, 1), api.OK)
	if !slices.Equal(second, []api.Extent{of(0, 2), of(3, 2), of(6, 3)}) {
		t.Errorf("what Holes answered became %v", second)
	}
	open(t, m, of(3, 4), of(8, 1))
	_ = append(m.Holes(), of(1, 1))
	open(t, m, of(3, 4), of(8, 1))
}

func TestMapsStandByThemselves(t *testing.T) {
	a, b := made(t, 3), made(t, 3)
	allocs(t, a, 2, of(0, 2))
	open(t, b, of(0, 3))
	allocs(t, b, 1, of(0, 1))
	frees(t, a, of(0, 1), api.OK)
	open(t, a, of(0, 1), of(2, 1))
	open(t, b, of(1, 2))
}
