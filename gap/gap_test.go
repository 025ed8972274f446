package gap_test

import (
	"math"
	"math/rand"
	"slices"
	"strings"
	"testing"
	"unsafe"

	"foolscap/api"
	"foolscap/gap"
	"foolscap/runes"
)

// far are numbers so great, or so far below 0, that a sum of two goes round.
var far = []int{math.MinInt, math.MinInt + 1, math.MinInt32, -20001, 20001, math.MaxInt32, 1 << 62, math.MaxInt - 1, math.MaxInt}

// wrong are bytes that are no text.
var wrong = []string{"\xff", "\x80", "a\xc3", "\n\xe2\x82", "\xed\xa0\x80", "\xc0\x80", "\xf4\x90\x80\x80", "ab\xff\n", strings.Repeat("a", api.MaxCells+1) + "\xff"}

// texts are ordinary ones: of runes of one to four bytes, with line feeds everywhere.
var texts = []string{
	"", "a", "\n", "\n\n", "ab\nc", "\nab", "ab\n", "\n\nab\n\n\nc\n", "hello",
	"h\u00e9\nl\u20aco", "\U0001f600\n\U0001f600", "\x00\u00e9\u20ac\U0010ffff", "\r\n\u2028\n\ufffd\n", "\n\n\n\n\n",
}

// letters are what the tests write.
var letters = []rune{'a', 'b', '\n', '\n', 0, 'z', 0xe9, 0x20ac, 0x1f600, 0x10ffff, 0xfffd}

func made(t *testing.T, s string) *gap.Buffer {
	t.Helper()
	b, e := gap.New(s)
	if b == nil || e != api.OK {
		t.Fatalf("New of %d bytes: %v, %d", len(s), b, e)
	}
	return b
}

func inserted(t *testing.T, b *gap.Buffer, at int, s string) {
	t.Helper()
	if e := b.Insert(at, s); e != api.OK {
		t.Fatalf("Insert(%d, %d bytes): %d", at, len(s), e)
	}
}

func deleted(t *testing.T, b *gap.Buffer, at, n int) {
	t.Helper()
	if e := b.Delete(at, n); e != api.OK {
		t.Fatalf("Delete(%d, %d): %d", at, n, e)
	}
}

// model is a text by the chapter's words alone.
type model []rune

func (m model) insert(at int, s string) model {
	return slices.Concat(m[:at], model(s), m[at:])
}

func (m model) delete(at, n int) model {
	return slices.Concat(m[:at], m[at+n:])
}

// lines tells how many runes each line has.
func (m model) lines() []int {
	l := []int{0}
	for _, r := range m {
		if r == '\n' {
			l = append(l, 0)
		} else {
			l[len(l)-1]++
		}
	}
	return l
}

// holds checks all that b tells of itself, but Slice and Same.
func holds(t *testing.T, b *gap.Buffer, m model) {
	t.Helper()
	s := string(m)
	if got := b.Text(); got != s {
		t.Fatalf("Text: %q, not %q", got, s)
	}
	if got := b.Len(); got != len(m) {
		t.Fatalf("Len of %q: %d", s, got)
	}
	if got := b.Digest(); got != runes.Digest(s) {
		t.Fatalf("Digest of %q: %d", s, got)
	}
	lines := m.lines()
	if got := b.Lines(); got != len(lines) {
		t.Fatalf("Lines of %q: %d", s, got)
	}
	at := 0
	for line, n := range lines {
		for col := 0; col <= n; col, at = col+1, at+1 {
			if gotLine, gotCol, e := b.Place(at); gotLine != line || gotCol != col || e != api.OK {
				t.Fatalf("Place(%d) of %q: %d, %d, %d, not %d, %d", at, s, gotLine, gotCol, e, line, col)
			}
			if got, e := b.At(line, col); got != at || e != api.OK {
				t.Fatalf("At(%d, %d) of %q: %d, %d, not %d", line, col, s, got, e, at)
			}
		}
		noPlace(t, b, line, n+1)
		noPlace(t, b, line, -1)
	}
	noPlace(t, b, len(lines), 0)
	noPlace(t, b, -1, 0)
	for _, at := range []int{-1, len(m) + 1} {
		if line, col, e := b.Place(at); line != 0 || col != 0 || e != api.ErrRange {
			t.Fatalf("Place(%d) of %q: %d, %d, %d", at, s, line, col, e)
		}
	}
}

func noPlace(t *testing.T, b *gap.Buffer, line, col int) {
	t.Helper()
	if at, e := b.At(line, col); at != 0 || e != api.ErrRange {
		t.Fatalf("At(%d, %d) of %q: %d, %d", line, col, b.Text(), at, e)
	}
}

// sliceHolds checks Slice, of each place and count, and of those that aren't there.
func sliceHolds(t *testing.T, b *gap.Buffer, m model) {
	t.Helper()
	numbers := slices.Clone(far)
	for k := -2; k <= len(m)+2; k++ {
		numbers = append(numbers, k)
	}
	for _, at := range numbers {
		for _, n := range numbers {
			want, e := "", api.ErrRange
			if isRun(m, at, n) {
				want, e = string(m[at:at+n]), api.OK
			}
			if got, err := b.Slice(at, n); got != want || err != e {
				t.Fatalf("Slice(%d, %d) of %q: %q, %d, not %q, %d", at, n, string(m), got, err, want, e)
			}
		}
	}
}

func isRun(m model, at, n int) bool {
	return 0 <= at && at <= len(m) && 0 <= n && n <= len(m)-at
}

// P2.1, P2.2, P2.3
func TestNew(t *testing.T) {
	for _, s := range texts {
		b := made(t, s)
		holds(t, b, model(s))
		sliceHolds(t, b, model(s))
	}
}

// P2.1
func TestNewOfNoText(t *testing.T) {
	for _, s := range wrong {
		if b, e := gap.New(s); b != nil || e != api.ErrText {
			t.Errorf("New of %d bytes: %v, %d", len(s), b, e)
		}
	}
}

// P2.1: it is runes that are counted, not bytes.
func TestNewOfMany(t *testing.T) {
	for _, r := range []string{"a", "\n", "\u00e9", "\u20ac", "\U0001f600"} {
		s := strings.Repeat(r, api.MaxCells)
		b := made(t, s)
		if b.Len() != api.MaxCells || b.Text() != s {
			t.Errorf("%q: %d", r, b.Len())
		}
		if b, e := gap.New(s + r); b != nil || e != api.ErrFull {
			t.Errorf("%q, one more: %v, %d", r, b, e)
		}
	}
	if b, e := gap.New(strings.Repeat("\U0001f600", 3*api.MaxCells)); b != nil || e != api.ErrFull {
		t.Error(b, e)
	}
}

// P2.1: each insertion into each text, at each place and beyond.
func TestInsert(t *testing.T) {
	for _, s := range texts {
		m := model(s)
		for _, x := range texts {
			for at := 0; at <= len(m); at++ {
				b := made(t, s)
				inserted(t, b, at, x)
				holds(t, b, m.insert(at, x))
			}
			for _, at := range append([]int{-1, len(m) + 1}, far...) {
				b := made(t, s)
				if e := b.Insert(at, x); e != api.ErrRange {
					t.Fatalf("Insert(%d, %q) into %q: %d", at, x, s, e)
				}
				holds(t, b, m)
			}
		}
	}
}

// P2.1: a text that is none is told ahead of a place that is none.
func TestInsertOfNoText(t *testing.T) {
	for _, s := range []string{"", "ab\nc"} {
		b := made(t, s)
		for _, x := range wrong {
			for _, at := range append([]int{-1, 0, len(s), len(s) + 1}, far...) {
				if e := b.Insert(at, x); e != api.ErrText {
					t.Fatalf("Insert(%d, %d bytes): %d", at, len(x), e)
				}
			}
		}
		holds(t, b, model(s))
	}
}

// P2.1: a place that is none is told ahead of what is too much.
func TestInsertOfMany(t *testing.T) {
	room := 7
	for _, r := range []string{"a", "\n", "\U0001f600"} {
		s := strings.Repeat("b\n", (api.MaxCells-room)/2) + "c"
		n := runes.Len(s)
		for _, at := range []int{0, 1, 5000, n} {
			b := made(t, s)
			inserted(t, b, at, "")
			if e := b.Insert(at, strings.Repeat(r, room+1)); e != api.ErrFull {
				t.Fatalf("Insert(%d) of one too many: %d", at, e)
			}
			for _, no := range append([]int{-1, n + 1}, far...) {
				if e := b.Insert(no, strings.Repeat(r, room+1)); e != api.ErrRange {
					t.Fatalf("Insert(%d) of one too many: %d", no, e)
				}
			}
			if e := b.Insert(at, strings.Repeat(r, 2*api.MaxCells)); e != api.ErrFull {
				t.Fatalf("Insert(%d) of far too many: %d", at, e)
			}
			if b.Text() != s {
				t.Fatal("what was refused has changed something")
			}
			inserted(t, b, at, strings.Repeat(r, room))
			full := s[:at] + strings.Repeat(r, room) + s[at:]
			if b.Text() != full || b.Len() != api.MaxCells {
				t.Fatalf("Insert(%d): %d runes", at, b.Len())
			}
			if e := b.Insert(at, "a"); e != api.ErrFull {
				t.Fatalf("Insert(%d) into what is full: %d", at, e)
			}
			inserted(t, b, at, "")
			inserted(t, b, b.Len(), "")
			deleted(t, b, 0, 1)
			inserted(t, b, 0, string(model(full)[:1]))
			if b.Text() != full {
				t.Fatal("not as it was")
			}
		}
	}
}

// P2.1: each deletion from each text, and those of runs that aren't there.
func TestDelete(t *testing.T) {
	for _, s := range texts {
		m := model(s)
		numbers := slices.Clone(far)
		for k := -2; k <= len(m)+2; k++ {
			numbers = append(numbers, k)
		}
		for _, at := range numbers {
			for _, n := range numbers {
				b := made(t, s)
				e := b.Delete(at, n)
				if !isRun(m, at, n) {
					if e != api.ErrRange {
						t.Fatalf("Delete(%d, %d) of %q: %d", at, n, s, e)
					}
					holds(t, b, m)
					continue
				}
				if e != api.OK {
					t.Fatalf("Delete(%d, %d) of %q: %d", at, n, s, e)
				}
				holds(t, b, m.delete(at, n))
			}
		}
	}
}

// edit does something at random to both.
func edit(t *testing.T, r *rand.Rand, b *gap.Buffer, m model) model {
	t.Helper()
	at := r.Intn(len(m) + 1)
	if r.Intn(5) < 2 {
		n := min(r.Intn(9), len(m)-at)
		deleted(t, b, at, n)
		return m.delete(at, n)
	}
	var s model
	for range r.Intn(6) {
		s = append(s, letters[r.Intn(len(letters))])
	}
	inserted(t, b, at, string(s))
	return m.insert(at, string(s))
}

// P2.1, P2.2, P2.3: edits one behind the other, at places to and fro.
func TestManyEdits(t *testing.T) {
	for seed := range int64(40) {
		r := rand.New(rand.NewSource(seed))
		m := model(texts[r.Intn(len(texts))])
		b := made(t, string(m))
		for range 150 {
			m = edit(t, r, b, m)
			holds(t, b, m)
			if r.Intn(30) == 0 {
				sliceHolds(t, b, m)
			}
		}
		for len(m) > 0 {
			n := 1 + r.Intn(min(len(m), 7))
			at := r.Intn(len(m) - n + 1)
			deleted(t, b, at, n)
			m = m.delete(at, n)
			holds(t, b, m)
		}
	}
}

// P2.1, P2.2, P2.3: what only asks, and what is refused, changes nothing that is told later on.
func TestRefusedBetween(t *testing.T) {
	r := rand.New(rand.NewSource(7))
	m := model("ab\nc\n\n\u20ac\n")
	b := made(t, string(m))
	for range 400 {
		m = edit(t, r, b, m)
		at, n := r.Intn(2*len(m)+8)-len(m)-4, r.Intn(2*len(m)+8)-len(m)-4
		if e := b.Insert(at, "x\xff\n"); e != api.ErrText {
			t.Fatal(e)
		}
		if at < 0 || at > len(m) {
			if e := b.Insert(at, "x\ny"); e != api.ErrRange {
				t.Fatal(at, e)
			}
		} else if e := b.Insert(at, strings.Repeat("\n", api.MaxCells-len(m)+1)); e != api.ErrFull {
			t.Fatal(at, e)
		}
		if !isRun(m, at, n) {
			if e := b.Delete(at, n); e != api.ErrRange {
				t.Fatal(at, n, e)
			}
		}
		holds(t, b, m)
	}
}

// P2.1, P2.3: one at a time, up to all that may be, with the gap going from side to side.
func TestFillAndEmpty(t *testing.T) {
	for _, s := range []string{"\n", "a", "\n\u20ac"} {
		b := made(t, "")
		one := runes.Len(s)
		for k := 0; k < api.MaxCells/one; k++ {
			inserted(t, b, b.Len()/one/2*one*(k%2), s)
		}
		if want := strings.Repeat(s, api.MaxCells/one); b.Text() != want {
			t.Fatalf("%q: not what was written", s)
		}
		if e := b.Insert(0, "a"); e != api.ErrFull || b.Lines() != strings.Count(b.Text(), "\n")+1 {
			t.Fatalf("%q: %d, %d lines", s, e, b.Lines())
		}
		line, col, e := b.Place(api.MaxCells)
		if back, err := b.At(line, col); e != api.OK || err != api.OK || back != api.MaxCells || line != b.Lines()-1 {
			t.Fatalf("%q: %d, %d, %d; %d, %d", s, line, col, e, back, err)
		}
		for k := 0; b.Len() > 0; k++ {
			deleted(t, b, (b.Len()/one-1)*one*(k%2), one)
		}
		holds(t, b, nil)
	}
}

// P2.1: all that may be, in one.
func TestAllAtOnce(t *testing.T) {
	s := strings.Repeat("\n\U0010ffff", api.MaxCells/2)
	b := made(t, "")
	inserted(t, b, 0, s)
	if b.Text() != s || b.Lines() != api.MaxCells/2+1 {
		t.Fatal(b.Len(), b.Lines())
	}
	deleted(t, b, 0, api.MaxCells)
	holds(t, b, nil)
	inserted(t, b, 0, "a\nb")
	holds(t, b, model("a\nb"))
}

// P2.2: each text held against each, wherever their gaps stand.
func TestSame(t *testing.T) {
	for _, s := range texts {
		for _, x := range texts {
			for at := range len(model(s)) + 1 {
				for other := range len(model(x)) + 1 {
					b, c := made(t, s), made(t, x)
					for _, y := range []struct {
						b  *gap.Buffer
						at int
					}{{b, at}, {c, other}} {
						inserted(t, y.b, y.at, "q\nr")
						deleted(t, y.b, y.at, 3)
					}
					if b.Same(c) != (s == x) || c.Same(b) != (s == x) || !b.Same(b) {
						t.Fatalf("Same of %q and %q, gaps at %d and %d", s, x, at, other)
					}
				}
			}
		}
	}
	if b := made(t, "abc"); b.Same(made(t, "abd")) || b.Same(made(t, "xbc")) || b.Same(made(t, "axc")) || b.Same(made(t, "ab")) || b.Same(made(t, "abcd")) || b.Same(made(t, "a\u00e9")) {
		t.Error("Same of others")
	}
}

// P2.2: told by the chapter's examples of layer 1.
func TestDigest(t *testing.T) {
	if h := made(t, "").Digest(); h != 14695981039346656037 {
		t.Error(h)
	}
	b := made(t, "foar")
	inserted(t, b, 2, "ob")
	if h := b.Digest(); h != 0x85944171f73967e8 {
		t.Error(h)
	}
}

// P2.3: of lines and columns that aren't there, in each pair.
func TestAtOfFar(t *testing.T) {
	for _, s := range texts {
		b := made(t, s)
		inserted(t, b, b.Len()/2, "")
		for _, x := range append([]int{-1, 100}, far...) {
			for _, y := range append([]int{-1, 0, 1, 100}, far...) {
				noPlace(t, b, x, y)
			}
			for line := range b.Lines() {
				noPlace(t, b, line, x)
			}
			if line, col, e := b.Place(x); line != 0 || col != 0 || e != api.ErrRange {
				t.Fatalf("Place(%d) of %q: %d, %d, %d", x, s, line, col, e)
			}
		}
	}
}

// P2.3: the line feed is the rune 10, and no other.
func TestNoOtherFeeds(t *testing.T) {
	if n := made(t, "\r\v\f\u0085\u2028\u2029\u0a0a\u010a\U0001000a\x00").Lines(); n != 1 {
		t.Error(n)
	}
}

// The chapter's examples.
func TestExamples(t *testing.T) {
	b := made(t, "ab\nc")
	if n := b.Lines(); n != 2 {
		t.Error(n)
	}
	if line, col, e := b.Place(3); line != 1 || col != 0 || e != api.OK {
		t.Error(line, col, e)
	}
	if at, e := b.At(0, 2); at != 2 || e != api.OK {
		t.Error(at, e)
	}
	if at, e := b.At(0, 3); at != 0 || e != api.ErrRange {
		t.Error(at, e)
	}
}

// P2.1, P2.2, P2.3: of nil: ErrArg ahead of all else, 0, nothing, false.
func TestNil(t *testing.T) {
	var b *gap.Buffer
	for _, at := range append([]int{-1, 0, 1}, far...) {
		for _, s := range append([]string{"", "a"}, wrong...) {
			if e := b.Insert(at, s); e != api.ErrArg {
				t.Error("Insert", at, e)
			}
		}
		if line, col, e := b.Place(at); line != 0 || col != 0 || e != api.ErrArg {
			t.Error("Place", at, line, col, e)
		}
		for _, n := range append([]int{-1, 0, 1}, far...) {
			if e := b.Delete(at, n); e != api.ErrArg {
				t.Error("Delete", at, n, e)
			}
			if s, e := b.Slice(at, n); s != "" || e != api.ErrArg {
				t.Error("Slice", at, n, s, e)
			}
			if got, e := b.At(at, n); got != 0 || e != api.ErrArg {
				t.Error("At", at, n, got, e)
			}
		}
	}
	if b.Len() != 0 || b.Lines() != 0 || b.Text() != "" || b.Digest() != 14695981039346656037 {
		t.Error(b.Len(), b.Lines(), b.Text(), b.Digest())
	}
	for _, s := range []string{"", "a"} {
		if c := made(t, s); b.Same(c) || c.Same(b) {
			t.Errorf("Same of nil and %q", s)
		}
	}
	if b.Same(nil) {
		t.Error("Same of nil and nil")
	}
}

// P2.4: each text, inserted at each place of each, and deleted again.
func TestInsertedAndDeleted(t *testing.T) {
	for _, s := range texts {
		m := model(s)
		b, was := made(t, s), made(t, s)
		for _, x := range texts {
			for at := range len(m) + 1 {
				inserted(t, b, at, x)
				deleted(t, b, at, runes.Len(x))
				holds(t, b, m)
				if !b.Same(was) || !was.Same(b) {
					t.Fatalf("%q at %d of %q: not as it was", x, at, s)
				}
			}
		}
		for at := range len(m) + 1 {
			for n := range len(m) - at + 1 {
				gone, _ := b.Slice(at, n)
				deleted(t, b, at, n)
				inserted(t, b, at, gone)
				holds(t, b, m)
			}
		}
	}
}

// P2.4: Place and At, with the gap at each place.
func TestThereAndBack(t *testing.T) {
	s := "\n\nab\u20ac\n\n\U0001f600\nc\n"
	m := model(s)
	for gapAt := range len(m) + 1 {
		b := made(t, s)
		inserted(t, b, gapAt, "\n\n")
		deleted(t, b, gapAt, 2)
		for at := range len(m) + 1 {
			line, col, e := b.Place(at)
			back, err := b.At(line, col)
			if e != api.OK || err != api.OK || back != at {
				t.Fatalf("gap at %d: Place(%d): %d, %d, %d; back: %d, %d", gapAt, at, line, col, e, back, err)
			}
		}
		for line := range b.Lines() {
			for col := 0; ; col++ {
				at, e := b.At(line, col)
				if e != api.OK {
					break
				}
				if l, c, e := b.Place(at); l != line || c != col || e != api.OK {
					t.Fatalf("gap at %d: At(%d, %d): %d; back: %d, %d, %d", gapAt, line, col, at, l, c, e)
				}
			}
		}
	}
}

// P2.1 and rule 5: two buffers share nothing, however they came to be.
func TestApart(t *testing.T) {
	s := "ab\nc\u20ac\n"
	m := model(s)
	first := made(t, s)
	text := first.Text()
	half, _ := first.Slice(0, 3)
	twin, copied, part, into := made(t, s), made(t, text), made(t, half), made(t, "")
	inserted(t, into, 0, text)
	r := rand.New(rand.NewSource(3))
	changed := m
	for range 60 {
		changed = edit(t, r, first, changed)
		for _, b := range []*gap.Buffer{twin, copied, into} {
			holds(t, b, m)
		}
		holds(t, part, m[:3])
	}
	for _, b := range []*gap.Buffer{twin, copied, part, into} {
		own := model(b.Text())
		for range 60 {
			own = edit(t, r, b, own)
			holds(t, first, changed)
		}
	}
	if text != s || half != "ab\n" {
		t.Errorf("%q, %q", text, half)
	}
}

// Rule 5: what is told is new memory, and stays as it was told.
func TestMemory(t *testing.T) {
	b := made(t, "")
	s := strings.Repeat("hello\u20ac\n", 5)
	inserted(t, b, 0, s)
	inserted(t, b, 9, s)
	n := b.Len()
	var told []string
	for range 2 {
		told = append(told, b.Text())
		for _, x := range [][2]int{{0, n}, {0, 9}, {2, 3}, {n - 4, 4}, {5, n - 9}} {
			got, _ := b.Slice(x[0], x[1])
			told = append(told, got)
		}
	}
	for i, x := range told {
		for _, y := range append([]string{s}, told[:i]...) {
			if shares(x, y) {
				t.Errorf("%q shares memory with %q", x, y)
			}
		}
	}
	was := strings.Clone(told[0])
	for range n {
		deleted(t, b, 0, 1)
		inserted(t, b, n-1, "z")
	}
	if told[0] != was || told[1] != was {
		t.Error("what was told has changed")
	}
}

func shares(a, b string) bool {
	x, y := uintptr(unsafe.Pointer(unsafe.StringData(a))), uintptr(unsafe.Pointer(unsafe.StringData(b)))
	return x < y+uintptr(len(b)) && y < x+uintptr(len(a))
}

// Rule 6: two to which the same was done answer the same; and so do two of which one was asked much in between.
func TestNothingElse(t *testing.T) {
	s := "ab\n\u00e9\nc"
	m := model(s)
	b, c := made(t, s), made(t, s)
	one, two := rand.New(rand.NewSource(11)), rand.New(rand.NewSource(11))
	for range 300 {
		n := edit(t, one, b, m)
		b.Same(c)
		sliceHolds(t, b, n)
		edit(t, two, c, m)
		m = n
		if !b.Same(c) || !c.Same(b) || b.Digest() != c.Digest() || b.Lines() != c.Lines() {
			t.Fatalf("%q, %q", b.Text(), c.Text())
		}
		if len(m) > 30 {
			deleted(t, b, 3, 27)
			deleted(t, c, 3, 27)
			m = m.delete(3, 27)
		}
	}
}
