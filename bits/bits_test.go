package bits

import (
	"peristyle/api"
	"testing"
)

// cells is a word bit by bit, as the chapter speaks of it: the promises are said on it once more, without shifts of whole words.
type cells [64]bool

func cellsOf(word int) cells {
	var c cells
	for k := range c {
		c[k] = word>>k&1 == 1
	}
	return c
}

func (c cells) word() int {
	word := 0
	for k, set := range c {
		if set {
			word |= 1 << k
		}
	}
	return word
}

func (c cells) count() int {
	n := 0
	for _, set := range c {
		if set {
			n++
		}
	}
	return n
}

// next is the lowest bit that is set, from one on, asked bit by bit; -1: there is none.
func (c cells) next(from int) int {
	for k, set := range c {
		if set && k >= from {
			return k
		}
	}
	return -1
}

func (c cells) width() int {
	for k := 63; k >= 0; k-- {
		if c[k] {
			return k + 1
		}
	}
	return 0
}

func (c cells) field(at, w int) cells {
	var f cells
	if at < 0 || at > 63 || w < 1 {
		return f
	}
	for k := 0; k < w && at+k < 64; k++ {
		f[k] = c[at+k]
	}
	return f
}

func (c cells) with(at, w int, v cells) cells {
	if at < 0 || at > 63 || w < 1 {
		return c
	}
	for k := 0; k < w && at+k < 64; k++ {
		c[at+k] = v[k]
	}
	return c
}

func (c cells) turn(by int) cells {
	var t cells
	for k, set := range c {
		t[((k+by%64)%64+64)%64] = set
	}
	return t
}

// someWords are each bit alone, all below it, all but it, words of a pattern, and some that a fixed rule stirs.
func someWords() []int {
	l := []int{0, -1, 5, 0xf0, 0x5555555555555555, -0x5555555555555556, api.MaxInt, api.MinInt, api.MinInt + 1}
	stirred := uint64(1)
	for k := range 64 {
		stirred = stirred*6364136223846793005 + 1442695040888963407
		l = append(l, 1<<k, 1<<k-1, ^(1 << k), -1<<k, int(stirred), int(stirred>>k))
	}
	return l
}

// someNumbers are places, widths and turns: all from below 0 to beyond 64, and the ends of what an int holds.
func someNumbers() []int {
	l := []int{api.MinInt, api.MinInt + 1, api.MinInt + 63, -1 << 40, -1000, 127, 128, 129, 1000, 1 << 32, 1<<32 + 5, api.MaxInt - 63, api.MaxInt - 1, api.MaxInt}
	for n := -66; n <= 66; n++ {
		l = append(l, n)
	}
	return l
}

func TestWidth(t *testing.T) {
	for _, c := range []struct{ word, want int }{
		{0, 0}, {1, 1}, {2, 2}, {3, 2}, {5, 3}, {255, 8}, {256, 9}, {1 << 31, 32}, {1 << 32, 33},
		{1 << 62, 63}, {api.MaxInt, 63}, {api.MinInt, 64}, {-1, 64},
	} {
		if got := Width(c.word); got != c.want {
			t.Errorf("Width(%d): %d, not %d", c.word, got, c.want)
		}
	}
	for _, word := range someWords() {
		if got, want := Width(word), cellsOf(word).width(); got != want {
			t.Errorf("Width(%#x): %d, not %d", uint64(word), got, want)
		}
	}
}

func TestMask(t *testing.T) {
	for _, c := range []struct{ w, want int }{
		{0, 0}, {1, 1}, {3, 7}, {8, 255}, {32, 1<<32 - 1}, {62, 1<<62 - 1}, {63, api.MaxInt}, {64, -1},
		{65, -1}, {128, -1}, {api.MaxInt, -1}, {-1, 0}, {-64, 0}, {api.MinInt, 0},
	} {
		if got := Mask(c.w); got != c.want {
			t.Errorf("Mask(%d): %d, not %d", c.w, got, c.want)
		}
	}
	for _, w := range someNumbers() {
		for k, set := range cellsOf(Mask(w)) {
			if set != (k < w) {
				t.Errorf("Mask(%d): bit %d is %t", w, k, set)
			}
		}
	}
}

func TestOnes(t *testing.T) {
	for _, c := range []struct{ word, want int }{
		{0, 0}, {1, 1}, {7, 3}, {0xf0, 4}, {api.MaxInt, 63}, {api.MinInt, 1}, {-1, 64}, {-2, 63},
	} {
		if got := Ones(c.word); got != c.want {
			t.Errorf("Ones(%d): %d, not %d", c.word, got, c.want)
		}
	}
	for _, word := range someWords() {
		if got, want := Ones(word), cellsOf(word).count(); got != want {
			t.Errorf("Ones(%#x): %d, not %d", uint64(word), got, want)
		}
	}
}

func TestNext(t *testing.T) {
	for _, c := range []struct{ word, from, want int }{
		{9, 0, 0}, {9, 1, 3}, {9, 3, 3}, {9, 4, -1}, {0, 0, -1}, {0, -5, -1},
		{8, -1, 3}, {8, api.MinInt, 3}, {api.MinInt, 0, 63}, {api.MinInt, 63, 63},
		{-1, 63, 63}, {-1, 64, -1}, {-1, 65, -1}, {-1, api.MaxInt, -1},
	} {
		if got := Next(c.word, c.from); got != c.want {
			t.Errorf("Next(%d, %d): %d, not %d", c.word, c.from, got, c.want)
		}
	}
	for _, word := range someWords() {
		for _, from := range someNumbers() {
			if got, want := Next(word, from), cellsOf(word).next(from); got != want {
				t.Errorf("Next(%#x, %d): %d, not %d", uint64(word), from, got, want)
			}
		}
	}
}

func TestTurn(t *testing.T) {
	for _, c := range []struct{ word, by, want int }{
		{1, 0, 1}, {1, 1, 2}, {3, 4, 0x30}, {1, 63, api.MinInt}, {api.MinInt, 1, 1}, {1, 64, 1}, {1, 65, 2},
		{1, -1, api.MinInt}, {2, -1, 1}, {1, -64, 1}, {1, -65, api.MinInt}, {-1, 17, -1}, {0, 17, 0},
		{6, api.MinInt, 6}, {6, api.MaxInt, 3}, {6, 1 << 32, 6},
	} {
		if got := Turn(c.word, c.by); got != c.want {
			t.Errorf("Turn(%d, %d): %d, not %d", c.word, c.by, got, c.want)
		}
	}
	for _, word := range someWords() {
		for _, by := range someNumbers() {
			if got, want := Turn(word, by), cellsOf(word).turn(by).word(); got != want {
				t.Errorf("Turn(%#x, %d): %#x, not %#x", uint64(word), by, uint64(got), uint64(want))
			}
		}
	}
}

func TestZigAndZag(t *testing.T) {
	for _, c := range []struct{ n, word int }{
		{0, 0}, {-1, 1}, {1, 2}, {-2, 3}, {2, 4}, {63, 126}, {-64, 127}, {1 << 62, api.MinInt}, {1<<62 - 1, api.MaxInt - 1},
		{-1 << 62, api.MaxInt}, {-1<<62 - 1, api.MinInt + 1}, {api.MaxInt, -2}, {api.MinInt, -1},
	} {
		if got := Zig(c.n); got != c.word {
			t.Errorf("Zig(%d): %d, not %d", c.n, got, c.word)
		}
		if got := Zag(c.word); got != c.n {
			t.Errorf("Zag(%d): %d, not %d", c.word, got, c.n)
		}
	}
	for _, n := range someWords() {
		want := 2 * n
		if n < 0 {
			want = -2*n - 1
		}
		if got := Zig(n); got != want {
			t.Errorf("Zig(%d): %d, not %d", n, got, want)
		}
	}
}

func TestField(t *testing.T) {
	for _, c := range []struct{ word, at, w, want int }{
		{0xf0, 4, 2, 3}, {0xf0, 4, 8, 15}, {6, 1, 64, 3}, {-1, 0, 64, -1}, {-1, 0, 1, 1}, {0x1234, 4, 8, 0x23},
		{-1, 60, 4, 15}, {-1, 60, 8, 15}, {-1, 63, 1, 1}, {-1, 63, 64, 1}, {-1, 1, 63, api.MaxInt}, {-1, 1, 64, api.MaxInt},
		{api.MinInt, 63, 1, 1}, {-1, 0, 65, -1}, {-1, 0, api.MaxInt, -1}, {-1, 63, api.MaxInt, 1},
		{-1, 64, 1, 0}, {-1, -1, 2, 0}, {-1, api.MaxInt, 1, 0}, {-1, api.MinInt, 1, 0},
		{-1, 0, 0, 0}, {-1, 0, -1, 0}, {-1, 5, api.MinInt, 0},
	} {
		if got := Field(c.word, c.at, c.w); got != c.want {
			t.Errorf("Field(%d, %d, %d): %d, not %d", c.word, c.at, c.w, got, c.want)
		}
	}
}

func TestWith(t *testing.T) {
	for _, c := range []struct{ word, at, w, v, want int }{
		{-1, 4, 4, 0, ^0xf0}, {0, 4, 4, -1, 0xf0}, {0x1234, 4, 8, 0xfff, 0x1ff4}, {0, 0, 64, -7, -7}, {12, 0, 1, 3, 13},
		{0, 63, 1, 1, api.MinInt}, {0, 63, 9, 3, api.MinInt}, {-1, 63, 9, 2, api.MaxInt}, {5, 60, 64, 0x1a, -6<<60 | 5},
		{5, 0, 65, 9, 9}, {5, 0, api.MaxInt, 9, 9}, {5, 63, api.MaxInt, 1, api.MinInt + 5},
		{5, 64, 1, 1, 5}, {5, -1, 2, 0, 5}, {5, api.MaxInt, 1, 1, 5}, {5, api.MinInt, 1, 1, 5},
		{5, 0, 0, 2, 5}, {5, 0, -1, 2, 5}, {5, 3, api.MinInt, 1, 5},
	} {
		if got := With(c.word, c.at, c.w, c.v); got != c.want {
			t.Errorf("With(%d, %d, %d, %d): %d, not %d", c.word, c.at, c.w, c.v, got, c.want)
		}
	}
}

// TestFieldAndWithBitByBit holds both against the chapter's words, at all places and widths, wrong ones too.
func TestFieldAndWithBitByBit(t *testing.T) {
	words := []int{0, -1, 0x5555555555555555, 0x0123456789abcdef, -0x123456789abcdef, api.MinInt}
	for i, word := range words {
		v := words[(i+2)%len(words)]
		for _, at := range someNumbers() {
			for _, w := range someNumbers() {
				if got, want := Field(word, at, w), cellsOf(word).field(at, w).word(); got != want {
					t.Fatalf("Field(%#x, %d, %d): %#x, not %#x", uint64(word), at, w, uint64(got), uint64(want))
				}
				if got, want := With(word, at, w, v), cellsOf(word).with(at, w, cellsOf(v)).word(); got != want {
					t.Fatalf("With(%#x, %d, %d, %#x): %#x, not %#x", uint64(word), at, w, uint64(v), uint64(got), uint64(want))
				}
			}
		}
	}
}

// TestWhatIsPutIsFound is Bi4, of With and Field: what does not fit behind bit 63 is lost, and nothing else.
func TestWhatIsPutIsFound(t *testing.T) {
	words := []int{0, -1, 0x0123456789abcdef, -0x123456789abcdef}
	for i, word := range words {
		v := words[(i+1)%len(words)]
		for at := range 64 {
			for w := 1; w <= 66; w++ {
				put := With(word, at, w, v)
				room := min(w, 64-at)
				if got, want := Field(put, at, w), Field(v, 0, room); got != want {
					t.Fatalf("put %#x at %d, %d bits: found %#x, not %#x", uint64(v), at, w, uint64(got), uint64(want))
				}
				if Field(put, 0, at) != Field(word, 0, at) || Field(put, at+room, 64) != Field(word, at+room, 64) {
					t.Fatalf("With(%#x, %d, %d, %#x): %#x has other bits changed", uint64(word), at, w, uint64(v), uint64(put))
				}
			}
		}
	}
}

// TestZagGoesBack is Bi4, of Zig and Zag, either way round.
func TestZagGoesBack(t *testing.T) {
	for _, n := range someWords() {
		if got := Zag(Zig(n)); got != n {
			t.Errorf("Zag(Zig(%d)): %d", n, got)
		}
		if got := Zig(Zag(n)); got != n {
			t.Errorf("Zig(Zag(%d)): %d", n, got)
		}
	}
}

// TestTurnKeepsBits is Bi4, of Turn.
func TestTurnKeepsBits(t *testing.T) {
	for _, word := range someWords() {
		if Turn(word, 64) != word || Turn(word, -64) != word {
			t.Errorf("%#x turned by 64: %#x, by -64: %#x", uint64(word), uint64(Turn(word, 64)), uint64(Turn(word, -64)))
		}
		for _, by := range someNumbers() {
			turned := Turn(word, by)
			if Ones(turned) != Ones(word) {
				t.Errorf("%#x turned by %d: %d bits, not %d", uint64(word), by, Ones(turned), Ones(word))
			}
			if onward := Turn(turned, 64-by&63); onward != word {
				t.Errorf("%#x turned by %d, and onward till 64, is %#x", uint64(word), by, uint64(onward))
			}
		}
	}
}

// all are the answers of each call at three arguments, used for each parameter.
func all(word, a, b int) [9]int {
	return [9]int{Width(word), Mask(a), Zig(word), Zag(word), Field(word, a, b), With(word, a, b, ^word), Ones(word), Next(word, a), Turn(word, b)}
}

// TestRules is R1 and R4: no call panics, whatever it is given, and what it answers hangs on its arguments alone.
func TestRules(t *testing.T) {
	numbers := someNumbers()
	for _, word := range []int{0, 1, -1, 0x0123456789abcdef, api.MaxInt, api.MinInt} {
		for _, a := range numbers {
			for i, b := range numbers {
				first := all(word, a, b)
				all(^word, b, numbers[len(numbers)-1-i])
				if again := all(word, a, b); again != first {
					t.Fatalf("at %d, %d, %d: %v, then %v", word, a, b, first, again)
				}
			}
		}
	}
}
