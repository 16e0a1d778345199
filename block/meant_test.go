package block

import (
	"encoding/binary"
	"hash/crc32"
	"maps"
	"peristyle/api"
	"slices"
	"strings"
)

// The chapter's words, told without the layers below.

const (
	most    = 64 // cells of a block
	longest = 32 // bytes of a text
)

func number(n int) api.Cell { return api.Cell{Kind: api.Int, N: n} }

func text(s string) api.Cell { return api.Cell{Kind: api.Text, S: s} }

func numbers(l ...int) []api.Cell { return each(l, number) }

func texts(l ...string) []api.Cell { return each(l, text) }

// bytesOf are numbers below 256 as a byte each.
func bytesOf(l ...int) string {
	return string(each(l, func(n int) byte { return byte(n) }))
}

// sealedBytes are bytes with their sum behind.
func sealedBytes(s string) string {
	sum := crc32.Checksum([]byte(s), crc32.MakeTable(crc32.Castagnoli))
	return string(binary.LittleEndian.AppendUint32([]byte(s), sum))
}

// groups are a number's bytes, seven bits each.
func groups(l ...int) string {
	var s []byte
	for _, n := range l {
		s = binary.AppendVarint(s, int64(n))
	}
	return string(s)
}

// eights are numbers' bytes, eight each.
func eights(l []int) string {
	var s []byte
	for _, n := range l {
		s = binary.LittleEndian.AppendUint64(s, uint64(n))
	}
	return string(s)
}

// counted are texts' bytes, each behind how many it has.
func counted(l ...string) string {
	var s strings.Builder
	for _, one := range l {
		s.WriteByte(byte(len(one)))
		s.WriteString(one)
	}
	return s.String()
}

// need is how many bits each of some words needs.
func need(words []int) int {
	width := 0
	for _, word := range words {
		for width < 64 && uint64(word)>>width != 0 {
			width++
		}
	}
	return width
}

// bitsOf are words as so many bits each, the lowest first.
func bitsOf(words []int, width int) string {
	s := make([]byte, (len(words)*width+7)/8)
	for k, word := range words {
		for bit := range width {
			at := k*width + bit
			s[at/8] |= byte(uint64(word)>>bit&1) << (at % 8)
		}
	}
	return string(s)
}

// repeats are numbers' bytes as runs.
func repeats(l []int) string {
	var s strings.Builder
	for at := 0; at < len(l); {
		often := 1
		for at+often < len(l) && l[at+often] == l[at] {
			often++
		}
		s.WriteString(groups(l[at], often))
		at += often
	}
	return s.String()
}

// stepsOf are numbers' bytes by how far each is from the one ahead.
func stepsOf(l []int) string {
	if len(l) < 2 {
		return groups(l...)
	}
	var far []int
	for k := range len(l) - 1 {
		far = append(far, l[k+1]-l[k])
	}
	least := slices.Min(far)
	words := each(far, func(step int) int { return step - least })
	return groups(l[0], least) + bytesOf(need(words)) + bitsOf(words, need(words))
}

// dictionary has each of some values once, rising; and of each its place there.
func dictionary[T int | string](l []T) ([]T, []int) {
	there := map[T]int{}
	for _, value := range l {
		there[value] = 0
	}
	values := slices.Sorted(maps.Keys(there))
	for place, value := range values {
		there[value] = place
	}
	return values, each(l, func(value T) int { return there[value] })
}

// numbersBytes are the bytes of numbers by a code; false, if it is none.
func numbersBytes(l []int, code int) (string, bool) {
	values, places := dictionary(l)
	switch code {
	case 1:
		return eights(l), true
	case 2:
		return repeats(l), true
	case 3:
		return stepsOf(l), true
	case 4:
		if len(l) == 0 {
			return "", true
		}
		return groups(len(values)) + groups(values...) + bitsOf(places, need(places)), true
	case 5:
		return bytesOf(need(l)) + bitsOf(l, need(l)), true
	}
	return "", false
}

// textsBytes are the bytes of texts by a code; false, if it is none.
func textsBytes(l []string, code int) (string, bool) {
	values, places := dictionary(l)
	named := groups(len(values)) + counted(values...)
	switch {
	case code == 1:
		return counted(l...), true
	case code != 2 && code != 4:
		return "", false
	case len(l) == 0:
		return "", true
	case code == 2:
		return named + repeats(places), true
	}
	return named + bitsOf(places, need(places)), true
}

// maskBytes tell which cells are nulls.
func maskBytes(l []api.Cell) string {
	marks := each(l, func(c api.Cell) int {
		if c.Kind == api.Null {
			return 1
		}
		return 0
	})
	if !slices.Contains(marks, 1) {
		return ""
	}
	return bitsOf(marks, 1)
}

// mayStand tells whether a cell may stand in a block of that kind.
func mayStand(c api.Cell, kind int) bool {
	switch {
	case c == api.Cell{}:
		return true
	case c.Kind != kind:
		return false
	case kind == api.Int:
		return c.S == ""
	}
	return kind == api.Text && c.N == 0 && len(c.S) <= longest
}

// parts are a block's bytes ahead of its sum.
type parts struct {
	head, mask, body string
}

// partsOf are those of cells; false, if they are those of no block.
func partsOf(l []api.Cell, kind, code int) (parts, bool) {
	if len(l) < 1 || len(l) > most || kind != api.Int && kind != api.Text {
		return parts{}, false
	}
	var ints []int
	var words []string
	for _, c := range l {
		if !mayStand(c, kind) {
			return parts{}, false
		}
		if c.Kind != api.Null {
			ints, words = append(ints, c.N), append(words, c.S)
		}
	}
	mask := maskBytes(l)
	body, ok := numbersBytes(ints, code)
	if kind == api.Text {
		body, ok = textsBytes(words, code)
	}
	return parts{bytesOf(kind, code, len(l), len(mask)), mask, body}, ok
}

func (p parts) sealed() string { return sealedBytes(p.head + p.mask + p.body) }

// reader takes what bytes seem to be; bad, if they can't be.
type reader struct {
	rest string
	bad  bool
}

func (r *reader) cut(count int) string {
	if count < 0 || count > len(r.rest) {
		r.bad = true
		return strings.Repeat("\x00", max(0, min(count, 1<<16)))
	}
	s := r.rest[:count]
	r.rest = r.rest[count:]
	return s
}

func (r *reader) byte() int { return int(r.cut(1)[0]) }

func (r *reader) group() int {
	n, used := binary.Varint([]byte(r.rest))
	r.cut(max(used, 0))
	r.bad = r.bad || used <= 0
	return int(n)
}

func (r *reader) words(count, width int) []int {
	if width > 64 {
		r.bad = true
		width = 0
	}
	s := r.cut((count*width + 7) / 8)
	words := make([]int, count)
	for at := range count * width {
		words[at/width] |= int(s[at/8]>>(at%8)&1) << (at % width)
	}
	return words
}

func (r *reader) texts(count int) []string {
	var l []string
	for len(l) < min(count, most) {
		l = append(l, r.cut(r.byte()))
	}
	r.bad = r.bad || len(l) != count
	return l
}

func (r *reader) groups(count int) []int {
	var l []int
	for len(l) < min(count, most) {
		l = append(l, r.group())
	}
	r.bad = r.bad || len(l) != count
	return l
}

// runs are so many numbers of runs; 0, if there are not as many.
func (r *reader) runs(count int) []int {
	l := make([]int, 0, count)
	for r.rest != "" && len(l) < count && !r.bad {
		val := r.group()
		for range min(r.group(), count-len(l)) {
			l = append(l, val)
		}
	}
	return append(l, make([]int, count-len(l))...)
}

func (r *reader) steps(count int) []int {
	l := make([]int, count)
	if count == 0 {
		return l
	}
	l[0] = r.group()
	if count == 1 {
		return l
	}
	least := r.group()
	for k, word := range r.words(count-1, r.byte()) {
		l[k+1] = l[k] + least + word
	}
	return l
}

// at are the values at some places.
func at[T any](r *reader, values []T, places []int) []T {
	var l []T
	for _, place := range places {
		if place < 0 || place >= len(values) {
			r.bad = true
			continue
		}
		l = append(l, values[place])
	}
	return l
}

// values are so many cells that are no nulls.
func (r *reader) values(kind, code, count int) []api.Cell {
	if count == 0 {
		return nil
	}
	if kind == api.Int {
		switch code {
		case 1:
			return numbers(r.words(count, 64)...)
		case 2:
			return numbers(r.runs(count)...)
		case 3:
			return numbers(r.steps(count)...)
		case 4:
			values := r.groups(r.group())
			return numbers(at(r, values, r.words(count, need([]int{len(values) - 1})))...)
		}
		return numbers(r.words(count, r.byte())...)
	}
	if code == 1 {
		return texts(r.texts(count)...)
	}
	values := r.texts(r.group())
	if code == 2 {
		return texts(at(r, values, r.runs(count))...)
	}
	return texts(at(r, values, r.words(count, need([]int{len(values) - 1})))...)
}

// told are the cells that bytes are a block of, with its kind and code; false, if of none: those that they seem to be have other bytes.
func told(s string) ([]api.Cell, api.Head, bool) {
	if len(s) < 4 {
		return nil, api.Head{}, false
	}
	r := &reader{rest: s[:len(s)-4]}
	head := api.Head{Kind: r.byte(), Code: r.byte(), Count: r.byte()}
	mask := r.cut(r.byte())
	if r.bad {
		return nil, api.Head{}, false
	}
	l := make([]api.Cell, head.Count)
	null := func(k int) bool { return k/8 < len(mask) && mask[k/8]>>(k%8)&1 == 1 }
	for k := range l {
		if null(k) {
			head.Nulls++
		}
	}
	values := r.values(head.Kind, head.Code, head.Count-head.Nulls)
	if r.bad {
		return nil, api.Head{}, false
	}
	for k := range l {
		if !null(k) {
			l[k], values = values[0], values[1:]
		}
	}
	p, ok := partsOf(l, head.Kind, head.Code)
	if !ok || p.sealed() != s {
		return nil, api.Head{}, false
	}
	return l, head, true
}
