package runes_test

import (
	"math"
	"slices"
	"strings"
	"testing"
	"unsafe"

	"foolscap/api"
	"foolscap/runes"
)

const most = 1114111

// edges are the least and the greatest rune of each count of bytes, and those beside what is no rune.
var edges = []rune{0, 127, 128, 2047, 2048, 55295, 57344, 65533, 65535, 65536, most}

// noRunes are numbers that are none.
var noRunes = []rune{-1, -128, math.MinInt32, 55296, 56320, 57343, most + 1, 1 << 21, math.MaxInt32}

// isRune follows the chapter's words.
func isRune(r rune) bool {
	return 0 <= r && r <= most && !(55296 <= r && r <= 57343)
}

// bytesOf follows the chapter's words, for any number below 2^21.
func bytesOf(r rune) string {
	low := func(k int) byte { return byte(128 + r>>(6*k)&63) }
	switch {
	case r < 128:
		return string([]byte{byte(r)})
	case r < 2048:
		return string([]byte{byte(192 + r>>6), low(0)})
	case r < 65536:
		return string([]byte{byte(224 + r>>12), low(1), low(0)})
	}
	return string([]byte{byte(240 + r>>18), low(2), low(1), low(0)})
}

// first tells the rune whose bytes s begins with, by trying what each count of bytes would hold.
func first(s string) (rune, int, bool) {
	own := [...]byte{1: 127, 2: 31, 3: 15, 4: 7}
	for n := 1; n <= 4 && n <= len(s); n++ {
		r := rune(s[0] & own[n])
		for k := 1; k < n; k++ {
			r = r<<6 | rune(s[k]&63)
		}
		if isRune(r) && bytesOf(r) == s[:n] {
			return r, n, true
		}
	}
	return 0, 0, false
}

// model tells the runes of s by the chapter's words alone.
func model(s string) ([]rune, bool) {
	l := []rune{}
	for s != "" {
		r, n, ok := first(s)
		if !ok {
			return nil, false
		}
		l, s = append(l, r), s[n:]
	}
	return l, true
}

// holds checks May, Len, Split and Join of any bytes against the model.
func holds(t *testing.T, s string) {
	t.Helper()
	want, ok := model(s)
	n, e := len(want), api.OK
	if !ok {
		n, e = -1, api.ErrText
	}
	if got := runes.May(s); got != ok {
		t.Errorf("May(%q): %v", s, got)
	}
	if got := runes.Len(s); got != n {
		t.Errorf("Len(%q): %d, not %d", s, got, n)
	}
	l, err := runes.Split(s)
	if err != e || !slices.Equal(l, want) {
		t.Errorf("Split(%q): %d, %d, not %d, %d", s, l, err, want, e)
	}
	if ok {
		if back, err := runes.Join(l); back != s || err != api.OK {
			t.Errorf("Join(Split(%q)): %q, %d", s, back, err)
		}
	}
}

// wrong are bytes that are no text.
var wrong = []string{
	"\x80", "\xbf", "a\x80", "\x80a", "\xff", "\xfe", "\xf8\x88\x80\x80\x80", // no beginning
	"\xc3", "\xe2", "\xe2\x82", "\xf0", "\xf0\x9f", "\xf0\x9f\x98", "ab\xe2\x82", // cut off
	"\xc3a", "\xe2a\x80", "\xe2\x82a", "\xf0\x9f\x98a", "\xe2\x82\xc3\xa9", "\xc3\xc3\xa9", // cut off by others
	"\xc0\x80", "\xc1\xbf", "\xe0\x80\x80", "\xe0\x9f\xbf", "\xf0\x80\x80\x80", "\xf0\x8f\xbf\xbf", // too long
	"\xed\xa0\x80", "\xed\xbf\xbf", "\xed\xa0\xbd\xed\xb8\x80", // 55,296; 57,343; two such
	"\xf4\x90\x80\x80", "\xf5\x80\x80\x80", "\xf7\xbf\xbf\xbf", // 1,114,112 and more
	"\xef\xbf\xbd\xff", "\xff\xef\xbf\xbd", // 65,533 beside what is broken
}

// P1.1, P1.2
func TestWrongBytes(t *testing.T) {
	for _, s := range wrong {
		if runes.May(s) || runes.Len(s) != -1 {
			t.Errorf("%q: %v, %d", s, runes.May(s), runes.Len(s))
		}
		if l, e := runes.Split(s); len(l) != 0 || e != api.ErrText {
			t.Errorf("Split(%q): %d, %d", s, l, e)
		}
		holds(t, s)
	}
}

// P1.1
func TestLen(t *testing.T) {
	for _, x := range []struct {
		s string
		n int
	}{{"", 0}, {"a", 1}, {"\xc3\xa9", 1}, {"\x00", 1}, {"\xef\xbf\xbd", 1}, {"a\xef\xbf\xbdb", 3}, {"hello", 5}, {"\xf4\x8f\xbf\xbf\xed\x9f\xbf\xee\x80\x80", 3}, {"\xc3", -1}} {
		if n := runes.Len(x.s); n != x.n {
			t.Errorf("Len(%q): %d, not %d", x.s, n, x.n)
		}
		if runes.May(x.s) != (x.n >= 0) {
			t.Errorf("May(%q)", x.s)
		}
	}
}

// P1.1, P1.2: each rune alone, and each number that is none, by its bytes.
func TestEachNumber(t *testing.T) {
	for r := rune(0); r < 1<<21; r++ {
		s, ok := bytesOf(r), isRune(r)
		n := -1
		if ok {
			n = 1
		}
		if runes.May(s) != ok || runes.Len(s) != n {
			t.Fatalf("%d: %v, %d", r, runes.May(s), runes.Len(s))
		}
		l, e := runes.Split(s)
		if ok && (e != api.OK || len(l) != 1 || l[0] != r) || !ok && (e != api.ErrText || len(l) != 0) {
			t.Fatalf("Split(%q): %d, %d", s, l, e)
		}
		got, e := runes.Join([]rune{r})
		if ok && (e != api.OK || got != s) || !ok && (e != api.ErrText || got != "") {
			t.Fatalf("Join(%d): %q, %d", r, got, e)
		}
	}
}

// P1.1, P1.2, P1.5: all bytes, up to four behind each other, of those where something begins or ends.
func TestBytesOfEdges(t *testing.T) {
	bytes := []byte{0, 97, 0x7f, 0x80, 0x8f, 0x90, 0x9f, 0xa0, 0xbf, 0xc0, 0xc1, 0xc2, 0xdf, 0xe0, 0xe1, 0xec, 0xed, 0xee, 0xef, 0xf0, 0xf1, 0xf4, 0xf5, 0xf7, 0xf8, 0xff}
	var grow func(s []byte)
	grow = func(s []byte) {
		holds(t, string(s))
		if len(s) == 4 || t.Failed() {
			return
		}
		for _, b := range bytes {
			grow(append(s, b))
		}
	}
	grow(nil)
}

// P1.2
func TestSplitAndJoin(t *testing.T) {
	s := "a\xc3\xa9\n\xe2\x82\xac\xf0\x9f\x98\x80\xef\xbf\xbd"
	want := []rune{97, 233, 10, 8364, 128512, 65533}
	if l, e := runes.Split(s); e != api.OK || !slices.Equal(l, want) {
		t.Error(l, e)
	}
	if got, e := runes.Join(want); e != api.OK || got != s {
		t.Errorf("%q, %d", got, e)
	}
	if l, e := runes.Split(""); e != api.OK || len(l) != 0 {
		t.Error(l, e)
	}
	for _, l := range [][]rune{nil, {}} {
		if got, e := runes.Join(l); e != api.OK || got != "" {
			t.Errorf("%q, %d", got, e)
		}
	}
}

// P1.2
func TestJoinOfNoRunes(t *testing.T) {
	for _, r := range noRunes {
		for _, l := range [][]rune{{r}, {r, 97}, {97, r}, {97, 8364, r, 98}} {
			if s, e := runes.Join(l); s != "" || e != api.ErrText {
				t.Errorf("Join(%d): %q, %d", l, s, e)
			}
		}
	}
}

// P1.3: each place and count of a text, one beyond each bound too, and numbers whose sum goes round.
func TestCut(t *testing.T) {
	far := []int{math.MinInt, math.MinInt + 1, math.MaxInt - 1, math.MaxInt, math.MinInt32, math.MaxInt32, 1 << 62}
	for _, s := range []string{"", "a", "hello", "h\xc3\xa9llo", "\xe2\x82\xac\n\xf0\x9f\x98\x80a\xef\xbf\xbd\xc3\xa9"} {
		l, _ := model(s)
		numbers := slices.Clone(far)
		for k := -2; k <= len(l)+2; k++ {
			numbers = append(numbers, k)
		}
		for _, from := range numbers {
			for _, n := range numbers {
				want, e := "", api.ErrRange
				if 0 <= from && from <= len(l) && 0 <= n && n <= len(l)-from {
					e = api.OK
					for _, r := range l[from : from+n] {
						want += bytesOf(r)
					}
				}
				if got, err := runes.Cut(s, from, n); got != want || err != e {
					t.Errorf("Cut(%q, %d, %d): %q, %d, not %q, %d", s, from, n, got, err, want, e)
				}
			}
		}
	}
	if s, e := runes.Cut("hello", 1, 3); s != "ell" || e != api.OK {
		t.Error(s, e)
	}
}

// P1.3: what is no text is told ahead of what is no place.
func TestCutOfNoText(t *testing.T) {
	for _, s := range wrong {
		for _, x := range [][2]int{{0, 0}, {0, 1}, {-1, 0}, {0, -1}, {9, 9}, {math.MaxInt, math.MaxInt}} {
			if got, e := runes.Cut("ab"+s, x[0], x[1]); got != "" || e != api.ErrText {
				t.Errorf("Cut(%q, %d, %d): %q, %d", "ab"+s, x[0], x[1], got, e)
			}
		}
	}
}

// P1.4
func TestDigest(t *testing.T) {
	for _, x := range []struct {
		s string
		h uint64
	}{
		{"", 14695981039346656037},
		{"a", 0xaf63dc4c8601ec8c},
		{"b", 0xaf63df4c8601f1a5},
		{"foobar", 0x85944171f73967e8},
	} {
		if h := runes.Digest(x.s); h != x.h {
			t.Errorf("Digest(%q): %d, not %d", x.s, h, x.h)
		}
	}
	all := ""
	for b := range 256 {
		all += string([]byte{byte(b)})
	}
	for _, s := range append(slices.Clone(wrong), "ab", "ba", "\x00", "\x00\x00", "hello", all) {
		var h uint64 = 14695981039346656037
		for _, b := range []byte(s) {
			h = (h ^ uint64(b)) * 1099511628211
		}
		if got := runes.Digest(s); got != h {
			t.Errorf("Digest(%q): %d, not %d", s, got, h)
		}
	}
}

// P1.5
func TestThereAndBack(t *testing.T) {
	var all []rune
	for r := rune(0); r <= most; r++ {
		if isRune(r) {
			all = append(all, r)
		}
	}
	for _, l := range [][]rune{nil, {97}, edges, all} {
		s, e := runes.Join(l)
		if e != api.OK || !runes.May(s) || runes.Len(s) != len(l) {
			t.Fatalf("%d runes: %d, %d", len(l), e, runes.Len(s))
		}
		back, e := runes.Split(s)
		if e != api.OK || !slices.Equal(back, l) {
			t.Fatalf("%d runes: %d", len(l), e)
		}
		if again, e := runes.Join(back); e != api.OK || again != s {
			t.Fatalf("%d runes: %d", len(l), e)
		}
	}
}

// P1.5
func TestHalves(t *testing.T) {
	s, _ := runes.Join(edges)
	for k := range len(edges) + 1 {
		a, e := runes.Cut(s, 0, k)
		if e != api.OK || runes.Len(a) != k {
			t.Errorf("%d: %q, %d", k, a, e)
		}
		b, e := runes.Cut(s, k, len(edges)-k)
		if e != api.OK || a+b != s {
			t.Errorf("%d: %q, %q, %d", k, a, b, e)
		}
	}
}

// Rule 5: what is cut or joined is new memory, and what is handed in stays as it was.
func TestMemory(t *testing.T) {
	s := strings.Repeat("hello\xe2\x82\xac", 9)
	from := uintptr(unsafe.Pointer(unsafe.StringData(s)))
	for _, x := range [][2]int{{0, runes.Len(s)}, {0, 3}, {1, 1}, {50, 4}} {
		got, e := runes.Cut(s, x[0], x[1])
		at := uintptr(unsafe.Pointer(unsafe.StringData(got)))
		if e != api.OK || from <= at && at < from+uintptr(len(s)) {
			t.Errorf("Cut(%d, %d) shares the text's memory", x[0], x[1])
		}
	}
	l := append(make([]rune, 0, 9), 97, 8364)
	joined, _ := runes.Join(l)
	if spare := l[:9:9]; !slices.Equal(spare, []rune{97, 8364, 0, 0, 0, 0, 0, 0, 0}) {
		t.Error(spare)
	}
	l[0] = 98
	if joined != "a\xe2\x82\xac" {
		t.Errorf("%q", joined)
	}
	one, _ := runes.Split(joined)
	two, _ := runes.Split(joined)
	one[0] = 99
	if two[0] != 97 {
		t.Error(two)
	}
}
