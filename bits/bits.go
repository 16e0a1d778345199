// Package bits is layer 1: see shared/doc/01-bits.md.
package bits

// wordBits is how many bits a word has.
const wordBits = 64

// Width is how many bits a word needs.
func Width(word int) int {
	for w := range wordBits {
		if uint64(word)>>w == 0 {
			return w
		}
	}
	return wordBits
}

// Mask is a word whose lowest bits, so many, are set.
func Mask(w int) int {
	switch {
	case w < 0:
		return 0
	case w > wordBits:
		w = wordBits
		fallthrough
	default:
		// A shift by all 64 bits leaves 0, and 0 less 1 is all bits.
		return int(uint64(1)<<w - 1)
	}
}

// Zig is a number as a word that is small for small numbers of both signs.
func Zig(n int) int {
	twice := uint64(n) << 1
	if n < 0 {
		// -2 n - 1 is 2 n with each bit turned over; so it can't overflow.
		return int(^twice)
	}
	return int(twice)
}

// Zag is the number of such a word.
func Zag(word int) int {
	half := uint64(word) >> 1
	if word&1 == 1 {
		return int(^half)
	}
	return int(half)
}

// Field is the word of some bits, from one on.
func Field(word, at, w int) int {
	if !isField(at, w) {
		return 0
	}
	return int(uint64(word)>>at) & Mask(w)
}

// With is a word with other bits in some places, from one on.
func With(word, at, w, v int) int {
	if !isField(at, w) {
		return word
	}
	places := uint64(Mask(w)) << at
	return int(uint64(word)&^places | uint64(v)<<at&places)
}

// isField tells whether w bits from at on have at least one bit of a word.
func isField(at, w int) bool {
	return at >= 0 && at < wordBits && w >= 1
}

// Ones is how many bits are set.
func Ones(word int) int {
	n := 0
	// Less 1 turns over the lowest bit that is set and those below it: each step clears that one alone.
	for rest := uint64(word); rest != 0; rest &= rest - 1 {
		n++
	}
	return n
}

// Next is the lowest bit that is set, from one on; -1: there is none.
func Next(word, from int) int {
	rest := uint64(word) &^ uint64(Mask(from))
	// The lowest bit alone has the width of its number and one more; none has the width 0.
	return Width(int(rest&-rest)) - 1
}

// Turn is a word turned round by so many bits, towards the higher ones.
func Turn(word, by int) int {
	// The lowest six bits are by modulo 64, of numbers below 0, too.
	up := by & (wordBits - 1)
	return int(uint64(word)<<up | uint64(word)>>(wordBits-up))
}
