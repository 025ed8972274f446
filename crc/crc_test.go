package crc_test

import (
	"hash/crc32"
	"math"
	"math/rand"
	"slices"
	"strings"
	"testing"
	"unsafe"

	"foolscap/crc"
)

// library is made by somebody else: the same sums by the name that the chapter tells.
var library = crc32.MakeTable(crc32.Castagnoli)

// sums are those about the edges, those of one bit, those of all but one, and some others.
var sums = edgeSums()

// sizes are counts of zero bytes, each beside a power of two, up to many thousands.
var sizes = edgeSizes()

func edgeSums() []uint32 {
	l := []uint32{0, 1, 2, 255, 256, 0x12345678, 0x82F63B78, 0xE3069283, 0xDEADBEEF, math.MaxUint32 - 1, math.MaxUint32}
	for bit := range 32 {
		l = append(l, 1<<bit, ^uint32(1<<bit))
	}
	r := rand.New(rand.NewSource(1))
	for range 20 {
		l = append(l, r.Uint32())
	}
	slices.Sort(l)
	return slices.Compact(l)
}

func edgeSizes() []int {
	var l []int
	for n := range 70 {
		l = append(l, n)
	}
	for k := 7; k <= 16; k++ {
		l = append(l, 1<<k-1, 1<<k, 1<<k+1)
	}
	return append(l, 100, 1000, 4321, 54321, 99999, 1<<20)
}

// stepped follows the chapter's words: halved; if the lowest bit was 1, made one with that number.
func stepped(word uint64) uint64 {
	half := word / 2
	if word%2 == 1 {
		half ^= 2197175160
	}
	return half
}

// eight follows the chapter's words of the table.
func eight(word uint64) uint64 {
	for i := 0; i < 8; i++ {
		word = stepped(word)
	}
	return word
}

// gone follows the chapter's words of a byte that goes into a word: each time, its entry of the table is made anew.
func gone(word uint64, b byte) uint64 {
	lowest := word % 256
	return eight(lowest^uint64(b)) ^ (word-lowest)/256
}

// more follows the chapter's words of the sum, from that of what stands ahead.
func more(sum uint32, s string) uint32 {
	word := 4294967295 - uint64(sum)
	for i := 0; i < len(s); i++ {
		word = gone(word, s[i])
	}
	return uint32(4294967295 - word)
}

func sumOf(s string) uint32 { return more(0, s) }

// join follows the chapter's words: More of n zero bytes, made one with b and with the sum of n zero bytes.
func join(a, b uint32, n int) uint32 {
	z := strings.Repeat("\x00", max(n, 0))
	return more(a, z) ^ b ^ sumOf(z)
}

// anyBytes tells n bytes of whatever value.
func anyBytes(r *rand.Rand, n int) string {
	s := make([]byte, n)
	r.Read(s)
	return string(s)
}

// texts are of all sorts and sizes, that of no bytes and each of one byte among them.
func texts() []string {
	l := []string{"", "123456789", "a", "ab", "hello, world", "é€😀", "\x00\x00", "\xff\xff\xff\xff", strings.Repeat("\x00", 32), strings.Repeat("\xff", 32)}
	for b := range 256 {
		l = append(l, string([]byte{byte(b)}))
	}
	r := rand.New(rand.NewSource(2))
	for n := range 300 {
		l = append(l, anyBytes(r, n))
	}
	for _, n := range []int{1023, 1024, 1025, 65536, 1<<20 + 3} {
		l = append(l, anyBytes(r, n))
	}
	return l
}

// The chapter's examples, and sums that others have told of.
func TestExamples(t *testing.T) {
	for _, x := range []struct {
		s   string
		sum uint32
	}{
		{"", 0},
		{"123456789", 3808858755},
		{"123456789", 0xE3069283},
		{strings.Repeat("\x00", 32), 0x8A9136AA},
		{strings.Repeat("\xff", 32), 0x62A8AB43},
		{"\x00", 0x527D5351},
		{"a", 0xC1D04330},
	} {
		if sum := crc.Sum(x.s); sum != x.sum {
			t.Errorf("%q: %X, not %X", x.s, sum, x.sum)
		}
	}
}

// P4.1
func TestTable(t *testing.T) {
	table := crc.Table()
	for i := range 256 {
		if table[i] != uint32(eight(uint64(i))) || table[i] != library[i] {
			t.Errorf("%d: %X, not %X", i, table[i], eight(uint64(i)))
		}
	}
	if table[0] != 0 || table[1] != 0xF26B8303 || table[128] != 0x82F63B78 || table[255] != 0xAD7D5351 {
		t.Errorf("%X %X %X %X", table[0], table[1], table[128], table[255])
	}
}

// P4.1, rule 5: the table is told anew by each call: to change it changes nothing else.
func TestTableApart(t *testing.T) {
	one, two := crc.Table(), crc.Table()
	for i := range one {
		one[i] = 7
	}
	if one == two || two != crc.Table() || two != *library {
		t.Error("a table that was changed changes another one")
	}
	s := "123456789"
	if crc.Sum(s) != 3808858755 || crc.More(crc.Sum(s[:4]), s[4:]) != 3808858755 || crc.Join(crc.Sum(s[:4]), crc.Sum(s[4:]), 5) != 3808858755 {
		t.Error("a table that was changed changes sums")
	}
}

// P4.1
func TestSum(t *testing.T) {
	for _, s := range texts() {
		if sum := crc.Sum(s); sum != sumOf(s) || sum != crc32.Checksum([]byte(s), library) {
			t.Errorf("%d bytes: %X, not %X", len(s), sum, sumOf(s))
		}
	}
}

// P4.1: all texts of two bytes, and each byte ahead of others and behind them.
func TestFewBytes(t *testing.T) {
	for a := range 256 {
		for b := range 256 {
			s := string([]byte{byte(a), byte(b)})
			if sum := crc.Sum(s); sum != sumOf(s) {
				t.Fatalf("%d: %X, not %X", []byte(s), sum, sumOf(s))
			}
		}
		for _, s := range []string{string([]byte{byte(a)}) + "abcd", "abcd" + string([]byte{byte(a)}), "ab" + string([]byte{byte(a)}) + "cd"} {
			if sum := crc.Sum(s); sum != sumOf(s) {
				t.Fatalf("%d: %X, not %X", []byte(s), sum, sumOf(s))
			}
		}
	}
}

// P4.1: of a text's sum, and bytes behind it, the sum of both.
func TestMore(t *testing.T) {
	for _, s := range texts() {
		whole := crc.Sum(s)
		for _, at := range cuts(len(s)) {
			if sum := crc.More(crc.Sum(s[:at]), s[at:]); sum != whole {
				t.Fatalf("%d bytes behind %d: %X, not %X", len(s)-at, at, sum, whole)
			}
		}
	}
	s := "a text that goes on, byte for byte, behind itself"
	var sum uint32
	for i := range len(s) {
		if sum = crc.More(sum, s[i:i+1]); sum != sumOf(s[:i+1]) {
			t.Fatalf("%d bytes: %X, not %X", i+1, sum, sumOf(s[:i+1]))
		}
	}
}

// cuts are the places where a text of n bytes is cut in two: all of a short one.
func cuts(n int) []int {
	if n > 300 {
		return []int{0, 1, n / 3, n - 4, n - 1, n}
	}
	var l []int
	for at := range n + 1 {
		l = append(l, at)
	}
	return l
}

// P4.1: whatever number is the sum that is gone on from.
func TestMoreOfAnySum(t *testing.T) {
	for _, sum := range sums {
		if got := crc.More(sum, ""); got != sum {
			t.Errorf("%X and nothing: %X", sum, got)
		}
		for b := range 256 {
			s := string([]byte{byte(b)})
			if got := crc.More(sum, s); got != more(sum, s) {
				t.Errorf("%X and %d: %X, not %X", sum, b, got, more(sum, s))
			}
		}
		for _, s := range []string{"\x00\x00\x00\x00", "\xff\xff\xff\xff", "abcde", strings.Repeat("xyz", 99)} {
			if got := crc.More(sum, s); got != more(sum, s) {
				t.Errorf("%X and %q: %X, not %X", sum, s, got, more(sum, s))
			}
		}
	}
}

// P4.2: whichever way a text is cut in two.
func TestJoin(t *testing.T) {
	for _, s := range texts() {
		whole := crc.Sum(s)
		for _, at := range cuts(len(s)) {
			a, b := crc.Sum(s[:at]), crc.Sum(s[at:])
			if sum := crc.Join(a, b, len(s)-at); sum != whole {
				t.Fatalf("%d bytes behind %d: %X, not %X", len(s)-at, at, sum, whole)
			}
		}
	}
}

// P4.2: of three texts it is one whichever two are joined first.
func TestJoinOfThree(t *testing.T) {
	r := rand.New(rand.NewSource(3))
	for range 200 {
		x, y, z := anyBytes(r, r.Intn(90)), anyBytes(r, r.Intn(90)), anyBytes(r, r.Intn(90))
		a, b, c := crc.Sum(x), crc.Sum(y), crc.Sum(z)
		left := crc.Join(crc.Join(a, b, len(y)), c, len(z))
		right := crc.Join(a, crc.Join(b, c, len(z)), len(y)+len(z))
		if want := sumOf(x + y + z); left != want || right != want {
			t.Fatalf("%d, %d, %d bytes: %X, %X, not %X", len(x), len(y), len(z), left, right, want)
		}
	}
}

// P4.2: of whatever a and b, that are no sums of such texts.
func TestJoinOfAnySums(t *testing.T) {
	for _, a := range sums {
		for _, b := range sums {
			for _, n := range []int{0, 1, 2, 3, 4, 5, 8, 33} {
				if got := crc.Join(a, b, n); got != join(a, b, n) {
					t.Fatalf("%X, %X, %d: %X, not %X", a, b, n, got, join(a, b, n))
				}
			}
		}
	}
	for _, n := range sizes {
		for _, a := range []uint32{0, 1, 0x80000000, 0xDEADBEEF, math.MaxUint32} {
			for _, b := range []uint32{0, 0x12345678, math.MaxUint32} {
				if n > 5000 && a != math.MaxUint32 {
					continue // the model goes through all bytes
				}
				if got := crc.Join(a, b, n); got != join(a, b, n) {
					t.Fatalf("%X, %X, %d: %X, not %X", a, b, n, got, join(a, b, n))
				}
			}
		}
	}
}

// P4.2: n of 0 adds nothing to the first text; n below 0 counts as 0.
func TestJoinOfNothing(t *testing.T) {
	for _, a := range sums {
		for _, b := range sums {
			for _, n := range []int{0, -1, -2, -8, -255, -1 << 31, math.MinInt + 1, math.MinInt} {
				if got := crc.Join(a, b, n); got != a^b {
					t.Fatalf("%X, %X, %d: %X, not %X", a, b, n, got, a^b)
				}
			}
		}
	}
}

// times multiplies two words as polynomials of one bit a coefficient, the lowest bit the highest power, by what a step divides by.
func times(a, b uint32) uint32 {
	var made uint32
	for bit := 31; bit >= 0; bit-- {
		if b>>bit&1 == 1 {
			made ^= a
		}
		a = uint32(stepped(uint64(a)))
	}
	return made
}

// stepsOn tells what a word is behind n zero bytes: 8 n steps, each a multiplication with the second power.
func stepsOn(word uint32, n int) uint32 {
	by := uint32(1 << 23) // eight steps
	for ; n > 0; n /= 2 {
		if n%2 == 1 {
			word = times(word, by)
		}
		by = times(by, by)
	}
	return word
}

// P4.2, rule 1: n of more bytes than any text has.
func TestJoinOfManyBytes(t *testing.T) {
	for n := range 40 {
		if got := stepsOn(0xDEADBEEF, n); got != join(0xDEADBEEF, 0, n) {
			t.Fatalf("the model of %d bytes: %X", n, got)
		}
	}
	large := []int{3 << 20, math.MaxInt32, math.MaxUint32, 123456789012345, math.MaxInt - 1, math.MaxInt}
	for k := 20; k < 63; k++ {
		large = append(large, 1<<k-1, 1<<k, 1<<k+1)
	}
	r := rand.New(rand.NewSource(4))
	for range 100 {
		large = append(large, r.Int())
	}
	for _, n := range large {
		a, b := r.Uint32(), r.Uint32()
		if got := crc.Join(a, b, n); got != stepsOn(a, n)^b {
			t.Errorf("%X, %X, %d: %X, not %X", a, b, n, got, stepsOn(a, n)^b)
		}
		if got := crc.Join(math.MaxUint32, math.MaxUint32, n); got != ^stepsOn(math.MaxUint32, n) {
			t.Errorf("all bits 1, %d: %X", n, got)
		}
		half := n / 2
		if got := crc.Join(crc.Join(a, 0, half), b, n-half); got != crc.Join(a, b, n) {
			t.Errorf("%X, %X, %d in two: %X", a, b, n, got)
		}
	}
}

// P4.2: four bytes, the lowest first.
func TestPut(t *testing.T) {
	for _, x := range []struct {
		sum uint32
		s   string
	}{
		{0, "\x00\x00\x00\x00"},
		{1, "\x01\x00\x00\x00"},
		{255, "\xff\x00\x00\x00"},
		{256, "\x00\x01\x00\x00"},
		{0x04030201, "\x01\x02\x03\x04"},
		{0xE3069283, "\x83\x92\x06\xe3"},
		{0x80000000, "\x00\x00\x00\x80"},
		{math.MaxUint32 - 1, "\xfe\xff\xff\xff"},
		{math.MaxUint32, "\xff\xff\xff\xff"},
	} {
		if s := crc.Put(x.sum); s != x.s {
			t.Errorf("%X: %q, not %q", x.sum, s, x.s)
		}
	}
	for _, sum := range sums {
		s := crc.Put(sum)
		if len(s) != 4 {
			t.Fatalf("%X: %q", sum, s)
		}
		back := uint32(s[0]) + 256*(uint32(s[1])+256*(uint32(s[2])+256*uint32(s[3])))
		if back != sum {
			t.Errorf("%X: %q", sum, s)
		}
	}
}

// changed tells s with the bytes of by made one with those from a place on.
func changed(s string, at int, by string) string {
	l := []byte(s)
	for i := range len(by) {
		l[at+i] ^= by[i]
	}
	return string(l)
}

// spots are places where so many bytes in a row may stand: at the beginning, in the middle, at the end.
func spots(size, many int) []int {
	l := []int{0, 1, (size - many) / 2, size - many - 1, size - many}
	l = slices.DeleteFunc(l, func(at int) bool { return at < 0 || at > size-many })
	slices.Sort(l)
	return slices.Compact(l)
}

// P4.3: texts that are unlike in one byte, or two, whichever way.
func TestUnlikeInFewBytes(t *testing.T) {
	r := rand.New(rand.NewSource(5))
	for _, size := range []int{1, 2, 3, 4, 5, 9, 64, 300} {
		s := anyBytes(r, size)
		sum := crc.Sum(s)
		for at := range size {
			for b := 1; b < 256; b++ {
				if crc.Sum(changed(s, at, string([]byte{byte(b)}))) == sum {
					t.Fatalf("%d bytes, changed by %d at %d: alike", size, b, at)
				}
			}
		}
	}
	for _, size := range []int{2, 7, 40} {
		s := anyBytes(r, size)
		sum := crc.Sum(s)
		for _, at := range spots(size, 2) {
			for d := 1; d < 1<<16; d++ {
				if crc.Sum(changed(s, at, string([]byte{byte(d), byte(d >> 8)}))) == sum {
					t.Fatalf("%d bytes, changed by %X at %d: alike", size, d, at)
				}
			}
		}
	}
}

// P4.3: texts that are unlike within four bytes in a row. Each change of one bit turns other bits of the sum; if these are free of each other, no change of several of them leaves the sum as it was.
func TestUnlikeWithinFourBytes(t *testing.T) {
	r := rand.New(rand.NewSource(6))
	for _, size := range []int{4, 5, 8, 60, 1000} {
		s := anyBytes(r, size)
		sum := crc.Sum(s)
		for _, at := range spots(size, 4) {
			var turned []uint32
			for bit := range 32 {
				turned = append(turned, sum^crc.Sum(changed(s, at, crc.Put(1<<bit))))
			}
			if n := free(turned); n != 32 {
				t.Errorf("%d bytes, at %d: only %d of 32 bits are free", size, at, n)
			}
			for range 2000 {
				d := r.Uint32() | 1
				if d = d << r.Intn(32); crc.Sum(changed(s, at, crc.Put(d))) == sum {
					t.Fatalf("%d bytes, changed by %X at %d: alike", size, d, at)
				}
			}
		}
	}
}

// free tells how many of the words no others of them make when made one.
func free(l []uint32) int {
	var kept [32]uint32
	n := 0
	for _, word := range l {
		for bit := 31; bit >= 0 && word != 0; bit-- {
			if word>>bit&1 == 0 {
				continue
			}
			if kept[bit] == 0 {
				kept[bit] = word
				n++
				break
			}
			word ^= kept[bit]
		}
	}
	return n
}

// blind tells a change of five bytes that no sum shows: what a step divides by, from the bit that drops out on.
func blind(shift int) string {
	d := (uint64(1) + 2*2197175160) << shift
	return string([]byte{byte(d), byte(d >> 8), byte(d >> 16), byte(d >> 24), byte(d >> 32)})
}

// P4.3: whatever stands ahead of two texts, or behind, of one length: the sums are alike just if theirs are.
func TestAheadAndBehind(t *testing.T) {
	r := rand.New(rand.NewSource(7))
	for range 400 {
		x := anyBytes(r, 5+r.Intn(40))
		at := r.Intn(len(x) - 4)
		y, z := changed(x, at, blind(r.Intn(8))), changed(x, at, "\x00\x01\x00\x02")
		if x == y || crc.Sum(x) != crc.Sum(y) || crc.Sum(x) == crc.Sum(z) {
			t.Fatalf("%d bytes, at %d: %X, %X, %X", len(x), at, crc.Sum(x), crc.Sum(y), crc.Sum(z))
		}
		ahead, behind := anyBytes(r, r.Intn(30)), anyBytes(r, r.Intn(30))
		for _, about := range [][2]string{{"", ""}, {ahead, ""}, {"", behind}, {ahead, behind}} {
			sum := crc.Sum(about[0] + x + about[1])
			if crc.Sum(about[0]+y+about[1]) != sum || crc.Sum(about[0]+z+about[1]) == sum {
				t.Fatalf("%d bytes, %d ahead, %d behind", len(x), len(about[0]), len(about[1]))
			}
		}
		// Unlike ones ahead, of one length, and what stands ahead of these.
		other := anyBytes(r, len(ahead))
		alike := crc.Sum(ahead) == crc.Sum(other)
		if (crc.Sum(ahead+x) == crc.Sum(other+x)) != alike || (crc.Sum(x+ahead) == crc.Sum(x+other)) != alike {
			t.Fatalf("%d bytes, %d others", len(x), len(ahead))
		}
	}
}

// P4.3: More and Join keep unlike sums apart, and like ones together.
func TestApartStayApart(t *testing.T) {
	for i, a := range sums {
		for _, b := range sums[:i] {
			for _, s := range []string{"", "\x00", "abcd", "\xff\xff\xff\xff\xff"} {
				if crc.More(a, s) == crc.More(b, s) {
					t.Fatalf("%X and %X with %q behind are alike", a, b, s)
				}
				if n := len(s); crc.Join(a, 9, n) == crc.Join(b, 9, n) || crc.Join(9, a, n) == crc.Join(9, b, n) {
					t.Fatalf("%X and %X joined with %d bytes are alike", a, b, n)
				}
			}
		}
	}
}

// Rule 5: what is handed in stays as it was, and nothing of it is kept; what Put tells is new memory.
func TestMemory(t *testing.T) {
	kept := []byte("123456789")
	s := unsafe.String(&kept[0], len(kept))
	sum := crc.Sum(s)
	if string(kept) != "123456789" || crc.More(0, s) != sum {
		t.Errorf("%q", kept)
	}
	kept[0] = '2'
	if crc.Sum(s) != sumOf("223456789") {
		t.Error("a sum of what was handed in earlier")
	}
	for _, x := range []uint32{0, 7, math.MaxUint32} {
		one, two := crc.Put(x), crc.Put(x)
		if one != two || unsafe.StringData(one) == unsafe.StringData(two) {
			t.Errorf("%X: told once for both", x)
		}
	}
}

// Rule 6: what a call answers hangs on its arguments alone, whatever was asked between.
func TestNothingElse(t *testing.T) {
	one := []uint32{crc.Sum("abc"), crc.More(5, "abc"), crc.Join(5, 6, 7)}
	crc.Sum(strings.Repeat("z", 999))
	crc.Join(1, 2, math.MaxInt)
	crc.More(math.MaxUint32, "\xff")
	two := []uint32{crc.Sum("abc"), crc.More(5, "abc"), crc.Join(5, 6, 7)}
	if !slices.Equal(one, two) {
		t.Error(one, two)
	}
}
