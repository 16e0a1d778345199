package vint

import (
	"math/big"
	"peristyle/api"
	"slices"
	"strings"
	"testing"
)

// bytesOf are a number's bytes once more, by the chapter's words: groups are told by divisions of numbers that can't overflow.
func bytesOf(n int) string {
	zig := new(big.Int).Mul(big.NewInt(int64(n)), big.NewInt(2))
	if n < 0 {
		zig.Neg(zig).Sub(zig, big.NewInt(1))
	}
	var groups []byte
	group := new(big.Int)
	for {
		zig.DivMod(zig, big.NewInt(128), group)
		groups = append(groups, byte(group.Int64()))
		if zig.Sign() == 0 {
			break
		}
	}
	for k := range len(groups) - 1 {
		groups[k] += 128
	}
	return string(groups)
}

// numberOf is the number whose bytes s begins with, and how many they are, told by the highest bits and by putting it again; 0 bytes: there is none.
func numberOf(s string) (int, int) {
	zig := new(big.Int)
	for k := range len(s) {
		group := big.NewInt(int64(s[k] % 128))
		zig.Add(zig, group.Lsh(group, uint(7*k)))
		if s[k] >= 128 {
			continue
		}
		odd := zig.Bit(0) == 1
		zig.Rsh(zig, 1)
		if odd {
			zig.Add(zig, big.NewInt(1)).Neg(zig)
		}
		if !zig.IsInt64() || bytesOf(int(zig.Int64())) != s[:k+1] {
			return 0, 0
		}
		return int(zig.Int64()), k + 1
	}
	return 0, 0
}

// someNumbers are all near 0, all near the powers of two, of both signs, and some that a fixed rule stirs.
func someNumbers() []int {
	l := []int{api.MinInt, api.MinInt + 1, api.MaxInt - 1, api.MaxInt}
	for n := -300; n <= 300; n++ {
		l = append(l, n)
	}
	stirred := uint64(1)
	for k := range 63 {
		stirred = stirred*6364136223846793005 + 1442695040888963407
		l = append(l, 1<<k-1, 1<<k, 1<<k+1, -1<<k-1, -1<<k, -1<<k+1, int(stirred), int(stirred>>k))
	}
	return l
}

// numbersAndBytes are numbers whose bytes the tests write out: the least and the greatest of each length.
var numbersAndBytes = []struct {
	n     int
	bytes string
}{
	{0, "\x00"}, {-1, "\x01"}, {1, "\x02"}, {5, "\x0a"}, {63, "\x7e"}, {-64, "\x7f"},
	{64, "\x80\x01"}, {-65, "\x81\x01"}, {-300, "\xd7\x04"}, {8191, "\xfe\x7f"}, {-8192, "\xff\x7f"},
	{8192, "\x80\x80\x01"}, {1<<20 - 1, "\xfe\xff\x7f"}, {-1 << 20, "\xff\xff\x7f"}, {1 << 20, "\x80\x80\x80\x01"},
	{1<<27 - 1, "\xfe\xff\xff\x7f"}, {1 << 27, "\x80\x80\x80\x80\x01"},
	{1<<34 - 1, "\xfe\xff\xff\xff\x7f"}, {1 << 34, "\x80\x80\x80\x80\x80\x01"},
	{1<<41 - 1, "\xfe\xff\xff\xff\xff\x7f"}, {1 << 41, "\x80\x80\x80\x80\x80\x80\x01"},
	{1<<48 - 1, "\xfe\xff\xff\xff\xff\xff\x7f"}, {1 << 48, "\x80\x80\x80\x80\x80\x80\x80\x01"},
	{1<<55 - 1, "\xfe\xff\xff\xff\xff\xff\xff\x7f"}, {1 << 55, "\x80\x80\x80\x80\x80\x80\x80\x80\x01"},
	{1<<62 - 1, "\xfe\xff\xff\xff\xff\xff\xff\xff\x7f"}, {-1 << 62, "\xff\xff\xff\xff\xff\xff\xff\xff\x7f"},
	{1 << 62, "\x80\x80\x80\x80\x80\x80\x80\x80\x80\x01"}, {-1<<62 - 1, "\x81\x80\x80\x80\x80\x80\x80\x80\x80\x01"},
	{api.MaxInt, "\xfe\xff\xff\xff\xff\xff\xff\xff\xff\x01"}, {api.MinInt, "\xff\xff\xff\xff\xff\xff\xff\xff\xff\x01"},
}

func TestPutLenAndTake(t *testing.T) {
	for _, c := range numbersAndBytes {
		if got := Put(c.n); got != c.bytes {
			t.Errorf("Put(%d): %x, not %x", c.n, got, c.bytes)
		}
		if got := Len(c.n); got != len(c.bytes) {
			t.Errorf("Len(%d): %d, not %d", c.n, got, len(c.bytes))
		}
		if n, used, e := Take(c.bytes); n != c.n || used != len(c.bytes) || e != api.OK {
			t.Errorf("Take(%x): %d, %d, %d", c.bytes, n, used, e)
		}
	}
}

// TestPutAndLenByDivisions is Vi1, of Put and Len, held against bytesOf.
func TestPutAndLenByDivisions(t *testing.T) {
	for _, n := range someNumbers() {
		want := bytesOf(n)
		if got := Put(n); got != want {
			t.Errorf("Put(%d): %x, not %x", n, got, want)
		}
		if got := Len(n); got != len(want) || got < 1 || got > 10 {
			t.Errorf("Len(%d): %d, not %d", n, got, len(want))
		}
	}
}

func TestTakeOfWrongBytes(t *testing.T) {
	nine := strings.Repeat("\x80", 9)
	for _, s := range []string{
		"", "\x80", "\xff", "\x80\x80", nine, strings.Repeat("\xff", 10), strings.Repeat("\xff", 11), strings.Repeat("\x80", 1000),
		"\x80\x00", "\x81\x00", "\xff\x00", "\xff\xff\x00", "\x80\x80\x80\x00", nine + "\x00", strings.Repeat("\xff", 9) + "\x00", "\x80\x00\x01",
		nine + "\x02", nine + "\x03", nine + "\x40", nine + "\x7f", strings.Repeat("\xff", 9) + "\x02", strings.Repeat("\xff", 9) + "\x7f",
		nine + "\x80\x00", nine + "\x80\x01", nine + "\x81\x00", nine + "\x81\x01", strings.Repeat("\xff", 10) + "\x01", strings.Repeat("\xff", 10) + "\x00",
	} {
		if n, used, e := Take(s); n != 0 || used != 0 || e != api.ErrForm {
			t.Errorf("Take(%x): %d, %d, %d, not ErrForm alone", s, n, used, e)
		}
	}
}

// TestTakeOfAnyBytes is Vi1, of Take: all strings of two bytes, and those of numbers with each byte changed to any, and cut at any.
func TestTakeOfAnyBytes(t *testing.T) {
	look := func(s string) {
		want, wantUsed := numberOf(s)
		wantErr := api.OK
		if wantUsed == 0 {
			wantErr = api.ErrForm
		}
		if n, used, e := Take(s); n != want || used != wantUsed || e != wantErr {
			t.Fatalf("Take(%x): %d, %d, %d, not %d, %d, %d", s, n, used, e, want, wantUsed, wantErr)
		}
	}
	for a := range 256 {
		for b := range 256 {
			look(string([]byte{byte(a), byte(b)}))
		}
	}
	for _, c := range numbersAndBytes {
		for k := range len(c.bytes) {
			look(c.bytes[:k])
			for b := range 256 {
				changed := []byte(c.bytes + "\x01")
				changed[k] = byte(b)
				look(string(changed))
			}
		}
	}
}

// someLists are lists of no number, of one, of several, and of as many as can be taken.
func someLists() [][]int {
	lists := [][]int{nil, {}, {0}, {-1}, {api.MinInt}, {api.MaxInt}, {5, -300, 0}, {0, 0, 0, 0}, {api.MinInt, api.MaxInt, 64, -64}, someNumbers()}
	for _, count := range []int{63, 64, 8191, 8192, 1<<16 - 1, 1 << 16} {
		l := make([]int, count)
		for k := range l {
			l[k] = k*k - 3*count
		}
		lists = append(lists, l)
	}
	return lists
}

// allBytesOf are a list's bytes once more, of bytesOf.
func allBytesOf(l []int) string {
	var b strings.Builder
	b.WriteString(bytesOf(len(l)))
	for _, n := range l {
		b.WriteString(bytesOf(n))
	}
	return b.String()
}

func TestPutAll(t *testing.T) {
	for _, c := range []struct {
		l    []int
		want string
	}{
		{nil, "\x00"}, {[]int{}, "\x00"}, {[]int{0}, "\x02\x00"}, {[]int{5, -300, 0}, "\x06\x0a\xd7\x04\x00"}, {[]int{-1, 64}, "\x04\x01\x80\x01"},
		{make([]int, 64), "\x80\x01" + strings.Repeat("\x00", 64)},
	} {
		if got := PutAll(c.l); got != c.want {
			t.Errorf("PutAll(%v): %x, not %x", c.l, got, c.want)
		}
	}
	beyond := make([]int, 1<<16+1)
	for _, l := range append(someLists(), beyond) {
		if PutAll(l) != allBytesOf(l) {
			t.Errorf("PutAll of %d numbers: other bytes than theirs", len(l))
		}
	}
}

func TestTakeAll(t *testing.T) {
	for _, l := range someLists() {
		s := allBytesOf(l)
		for _, behind := range []string{"", "\x00", "\x80", "\xff\xff", "x"} {
			got, used, e := TakeAll(s + behind)
			if !slices.Equal(got, l) || used != len(s) || e != api.OK {
				t.Errorf("TakeAll of %d numbers and %x: %d numbers, %d bytes of %d, %d", len(l), behind, len(got), used, len(s), e)
			}
		}
	}
}

func TestTakeAllOfWrongBytes(t *testing.T) {
	tooMany := bytesOf(1<<16 + 1)
	for _, c := range []struct {
		s    string
		want api.Errno
	}{
		{"", api.ErrForm}, {"\x80", api.ErrForm}, {"\x80\x00", api.ErrForm}, {"\x82\x00\x01", api.ErrForm},
		{bytesOf(-1), api.ErrForm}, {bytesOf(-1) + "\x01", api.ErrForm}, {bytesOf(-1<<16 - 1), api.ErrForm}, {bytesOf(api.MinInt), api.ErrForm},
		{tooMany, api.ErrLimit}, {tooMany + "\x80\x00", api.ErrLimit}, {allBytesOf(make([]int, 1<<16+1)), api.ErrLimit},
		{bytesOf(1 << 40), api.ErrLimit}, {bytesOf(api.MaxInt), api.ErrLimit}, {bytesOf(api.MaxInt)[:9], api.ErrForm},
		{bytesOf(1), api.ErrForm}, {bytesOf(2) + "\x00", api.ErrForm}, {bytesOf(1) + "\x80", api.ErrForm}, {bytesOf(1) + "\x80\x00", api.ErrForm},
		{bytesOf(2) + "\x80\x00\x01", api.ErrForm}, {bytesOf(3) + "\x01\x80\x00\x01", api.ErrForm},
		{bytesOf(1) + strings.Repeat("\xff", 9) + "\x02", api.ErrForm}, {bytesOf(1) + strings.Repeat("\xff", 10) + "\x01", api.ErrForm},
		{bytesOf(1 << 16), api.ErrForm}, {bytesOf(1<<16) + strings.Repeat("\x00", 1<<16-1), api.ErrForm},
	} {
		if l, used, e := TakeAll(c.s); len(l) != 0 || used != 0 || e != c.want {
			t.Errorf("TakeAll of %d bytes, from %x on: %d numbers, %d bytes, %d, not %d alone", len(c.s), c.s[:min(len(c.s), 12)], len(l), used, e, c.want)
		}
	}
}

// TestTakeAllCutShort cuts a list's bytes at each place: what is left is never taken for a list.
func TestTakeAllCutShort(t *testing.T) {
	s := allBytesOf(someNumbers())
	for k := range len(s) {
		if l, used, e := TakeAll(s[:k]); len(l) != 0 || used != 0 || e != api.ErrForm {
			t.Fatalf("the first %d of %d bytes: %d numbers, %d bytes, %d", k, len(s), len(l), used, e)
		}
	}
}

// TestWhatIsPutIsTaken is Vi2, of what is put and what stands behind it.
func TestWhatIsPutIsTaken(t *testing.T) {
	numbers := someNumbers()
	for i, n := range numbers {
		behind := Put(numbers[len(numbers)-1-i])
		for _, s := range []string{"", "\x00", "\x80", "\xff", behind, strings.Repeat("\xff", 20)} {
			if got, used, e := Take(Put(n) + s); got != n || used != Len(n) || e != api.OK {
				t.Errorf("Take of %d's bytes and %x: %d, %d, %d", n, s, got, used, e)
			}
		}
	}
	for _, l := range someLists() {
		s := PutAll(l)
		if got, used, e := TakeAll(s + "\xff\x00"); !slices.Equal(got, l) || used != len(s) || e != api.OK {
			t.Errorf("%d numbers put: %d taken, %d bytes of %d, %d", len(l), len(got), used, len(s), e)
		}
	}
}

// TestNoNumberHasTwoKindsOfBytes is Vi2: all bytes that are taken are those that are put, and none begins another's.
func TestNoNumberHasTwoKindsOfBytes(t *testing.T) {
	for a := range 256 {
		for b := range 256 {
			for _, c := range []byte{0, 1, 0x3f, 0x40, 0x7f, 0x80, 0xff} {
				s := string([]byte{byte(a), byte(b), c})
				if n, used, e := Take(s); e == api.OK && Put(n) != s[:used] {
					t.Fatalf("%d is taken of %x, and put as %x", n, s[:used], Put(n))
				}
			}
		}
	}
	numbers := someNumbers()
	slices.Sort(numbers)
	numbers = slices.Compact(numbers)
	for _, n := range numbers {
		for _, m := range numbers {
			if n != m && strings.HasPrefix(Put(m), Put(n)) {
				t.Fatalf("%d's bytes %x begin those of %d: %x", n, Put(n), m, Put(m))
			}
		}
	}
}

// TestNearerToZeroIsNotLonger is Vi2, of how many bytes numbers have.
func TestNearerToZeroIsNotLonger(t *testing.T) {
	// The distance as an unsigned number holds that of MinInt, too.
	distance := func(n int) uint64 {
		if n < 0 {
			return -uint64(n)
		}
		return uint64(n)
	}
	numbers := someNumbers()
	for _, near := range numbers {
		for _, far := range numbers {
			if distance(near) < distance(far) && (Len(near) > Len(far) || len(Put(near)) > len(Put(far))) {
				t.Fatalf("%d has %d bytes, %d has %d", near, Len(near), far, Len(far))
			}
		}
	}
}

// TestRulesOfLists is R3: what is handed in stays as it is, behind its end too, and what is answered is new memory.
func TestRulesOfLists(t *testing.T) {
	room := []int{7, -7, 300, 11, 12}
	if got := PutAll(room[:3]); got != allBytesOf([]int{7, -7, 300}) {
		t.Errorf("PutAll of three: %x", got)
	}
	if !slices.Equal(room, []int{7, -7, 300, 11, 12}) {
		t.Errorf("PutAll left %v", room)
	}
	s := PutAll(room)
	first, _, _ := TakeAll(s)
	for k := range first {
		first[k] = -1
	}
	if again, _, _ := TakeAll(s); !slices.Equal(again, room) {
		t.Errorf("a list that was taken, and changed, changed the next one: %v", again)
	}
	if PutAll(nil) != PutAll([]int{}) || PutAll(room[:0]) != PutAll(nil) {
		t.Error("nil and the empty list have other bytes")
	}
}

// TestRules is R1 and R4: no call panics, whatever it is given, and the same is answered again.
func TestRules(t *testing.T) {
	stirred := uint64(7)
	for range 20000 {
		var s []byte
		for range int(stirred >> 59) {
			stirred = stirred*6364136223846793005 + 1442695040888963407
			// Three bytes in four tell that another one follows, so that long numbers come, and ones that are too long.
			s = append(s, byte(stirred>>40)|byte(stirred>>33&0x80))
		}
		stirred = stirred*6364136223846793005 + 1442695040888963407
		n, used, e := Take(string(s))
		l, usedAll, eAll := TakeAll(string(s))
		Take("\x80\x01")
		TakeAll("\x04\x01\x02")
		if n2, used2, e2 := Take(string(s)); n2 != n || used2 != used || e2 != e {
			t.Fatalf("Take(%x): %d, %d, %d, then %d, %d, %d", s, n, used, e, n2, used2, e2)
		}
		if l2, used2, e2 := TakeAll(string(s)); !slices.Equal(l2, l) || used2 != usedAll || e2 != eAll {
			t.Fatalf("TakeAll(%x): %v, %d, %d, then %v, %d, %d", s, l, usedAll, eAll, l2, used2, e2)
		}
		if e == api.OK && (used < 1 || used > 10 || used > len(s)) || e != api.OK && (n != 0 || used != 0) {
			t.Fatalf("Take(%x): %d, %d, %d", s, n, used, e)
		}
	}
	for _, n := range someNumbers() {
		s, bytes := Put(n), Len(n)
		Put(^n)
		if again := Put(n); again != s || Len(n) != bytes {
			t.Fatalf("%d's bytes: %x, then %x", n, s, again)
		}
	}
}
