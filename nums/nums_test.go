package nums_test

import (
	"math"
	"math/big"
	"math/rand"
	"slices"
	"strings"
	"testing"
	"unsafe"

	"foolscap/api"
	"foolscap/nums"
)

// numbers are the first and the last of each count of bytes, those beside them, and those beside each power of two.
var numbers = edges()

// ints are numbers with a sign: ordinary ones, and those about the edges on either side of 0.
var ints = signed()

// mosts are bounds of numbers.
var mosts = []uint64{0, 1, 2, 126, 127, 128, 129, 255, 256, 16383, 16384, api.MaxNum, 1<<63 - 1, 1 << 63, math.MaxUint64 - 1, math.MaxUint64}

// rowMosts are bounds of rows.
var rowMosts = []int{math.MinInt, math.MinInt + 1, -128, -1, 0, 1, 2, 3, 5, 127, 128, 129, 300, api.MaxBody, math.MaxInt - 1, math.MaxInt}

// edge bytes: the least and the greatest of each sort, and those beside them.
var edge = []byte{0, 1, 2, 3, 126, 127, 128, 129, 130, 254, 255}

func edges() []uint64 {
	l := []uint64{0, 300, 1000000, math.MaxUint64 - 1}
	for k := range 64 {
		l = append(l, 1<<k-1, 1<<k, 1<<k+1)
	}
	l = append(l, math.MaxUint64)
	slices.Sort(l)
	return slices.Compact(l)
}

func signed() []int {
	l := []int{math.MinInt, math.MaxInt}
	for _, n := range numbers {
		l = append(l, int(n), -int(n))
	}
	slices.Sort(l)
	return slices.Compact(l)
}

// bytesOf follows the chapter's words: digits of seven bits, the lowest first.
func bytesOf(n uint64) string {
	var s []byte
	of, rest := big.NewInt(128), new(big.Int).SetUint64(n)
	for {
		digit := new(big.Int)
		rest.DivMod(rest, of, digit)
		if rest.Sign() == 0 {
			return string(append(s, byte(digit.Int64())))
		}
		s = append(s, byte(digit.Int64()+128))
	}
}

// unsigned follows the chapter's words: twice n; below 0 twice what it is below 0, less 1.
func unsigned(n int) uint64 {
	twice := new(big.Int).Lsh(big.NewInt(int64(n)), 1)
	if n < 0 {
		twice.Neg(twice).Sub(twice, big.NewInt(1))
	}
	return twice.Uint64()
}

// model is a reader by the chapter's words alone.
type model struct {
	s     string
	fault api.Errno
}

// next tells the number that stands first, how many bytes it has, and its first fault.
func next(s string, most uint64) (uint64, int, api.Errno) {
	last := slices.IndexFunc([]byte(s), func(b byte) bool { return b < 128 })
	if len(s) >= 10 && (last < 0 || last >= 10) {
		return 0, 0, api.ErrForm
	}
	if last < 0 {
		return 0, 0, api.ErrShort
	}
	n := new(big.Int)
	for i := last; i >= 0; i-- {
		n.Mul(n, big.NewInt(128)).Add(n, big.NewInt(int64(s[i]&127)))
	}
	if !n.IsUint64() || s[last] == 0 && last > 0 || n.Uint64() > most {
		return 0, 0, api.ErrForm
	}
	return n.Uint64(), last + 1, api.OK
}

func (m *model) num(most uint64) uint64 {
	if m.fault != api.OK {
		return 0
	}
	n, size, e := next(m.s, most)
	m.fault, m.s = e, m.s[size:]
	return n
}

func (m *model) int() int {
	n := new(big.Int).SetUint64(m.num(math.MaxUint64))
	if n.Bit(0) == 1 {
		n.Add(n, big.NewInt(1)).Neg(n)
	}
	return int(n.Quo(n, big.NewInt(2)).Int64())
}

func (m *model) text(most int) string {
	if m.fault != api.OK {
		return ""
	}
	n, size, e := next(m.s, uint64(max(most, 0)))
	if e == api.OK && n > uint64(len(m.s)-size) {
		e = api.ErrShort
	}
	if m.fault = e; e != api.OK {
		return ""
	}
	row := m.s[size : size+int(n)]
	m.s = m.s[size+int(n):]
	return row
}

func (m *model) flag() bool { return m.num(1) == 1 }

func (m *model) end() api.Errno {
	if m.fault == api.OK && m.s != "" {
		return api.ErrMore
	}
	return m.fault
}

// both are a reader and its model, that are asked the same.
type both struct {
	t *testing.T
	r *nums.Reader
	m *model
	s string
}

func of(t *testing.T, s string) both {
	t.Helper()
	b := both{t, nums.Read(s), &model{s: s}, s}
	b.same("Read")
	return b
}

// same checks what tells of a reader, twice, as asking changes nothing.
func (b both) same(what string) {
	b.t.Helper()
	for range 2 {
		if n := b.r.Left(); n != len(b.m.s) {
			b.t.Fatalf("%s of %d: Left: %d, not %d", what, []byte(b.s), n, len(b.m.s))
		}
		if e := b.r.Fault(); e != b.m.fault {
			b.t.Fatalf("%s of %d: Fault: %d, not %d", what, []byte(b.s), e, b.m.fault)
		}
		if e := b.r.End(); e != b.m.end() {
			b.t.Fatalf("%s of %d: End: %d, not %d", what, []byte(b.s), e, b.m.end())
		}
	}
}

// agree checks what both read, and what is told behind it.
func agree[T comparable](b both, what string, got, want T) {
	b.t.Helper()
	if got != want {
		b.t.Fatalf("%s of %d: %#v, not %#v", what, []byte(b.s), got, want)
	}
	b.same(what)
}

func (b both) num(most uint64) {
	b.t.Helper()
	agree(b, "Num", b.r.Num(most), b.m.num(most))
}

func (b both) int() {
	b.t.Helper()
	agree(b, "Int", b.r.Int(), b.m.int())
}

func (b both) text(most int) {
	b.t.Helper()
	agree(b, "Text", b.r.Text(most), b.m.text(most))
}

func (b both) flag() {
	b.t.Helper()
	agree(b, "Flag", b.r.Flag(), b.m.flag())
}

// holds checks each call, as the first and as the second one, upon a reader of its own.
func holds(t *testing.T, s string) {
	t.Helper()
	for _, most := range mosts {
		b := of(t, s)
		b.num(most)
		b.num(most)
	}
	for _, most := range rowMosts {
		b := of(t, s)
		b.text(most)
		b.text(most)
	}
	b := of(t, s)
	b.int()
	b.int()
	b = of(t, s)
	b.flag()
	b.flag()
}

// faults checks that each of the calls faults so, passes nothing, and that nothing is read behind it.
func faults(t *testing.T, s string, e api.Errno, reads ...func(r *nums.Reader) bool) {
	t.Helper()
	for i, read := range reads {
		r := nums.Read(s)
		for range 3 {
			if !read(r) {
				t.Fatalf("call %d of %d bytes: not zero", i, len(s))
			}
			if r.Fault() != e || r.End() != e || r.Left() != len(s) {
				t.Fatalf("call %d of %d bytes: %d, %d, %d left, not %d", i, len(s), r.Fault(), r.End(), r.Left(), e)
			}
			if r.Num(math.MaxUint64) != 0 || r.Int() != 0 || r.Text(math.MaxInt) != "" || r.Flag() {
				t.Fatalf("behind call %d of %d bytes: not zero", i, len(s))
			}
		}
	}
}

func noNum(most uint64) func(*nums.Reader) bool {
	return func(r *nums.Reader) bool { return r.Num(most) == 0 }
}

func noText(most int) func(*nums.Reader) bool {
	return func(r *nums.Reader) bool { return r.Text(most) == "" }
}

func noInt(r *nums.Reader) bool { return r.Int() == 0 }

func noFlag(r *nums.Reader) bool { return !r.Flag() }

// The chapter's examples.
func TestExamples(t *testing.T) {
	if s := nums.Put(300); s != "\xac\x02" {
		t.Errorf("Put(300): %d", []byte(s))
	}
	if s := nums.PutInt(-1); s != "\x01" {
		t.Errorf("PutInt(-1): %d", []byte(s))
	}
	faults(t, "\x80\x00", api.ErrForm, noNum(math.MaxUint64))
	faults(t, "\x80", api.ErrShort, noNum(math.MaxUint64))
}

// P3.1: numbers of each count of bytes, as they are written out.
func TestPut(t *testing.T) {
	for _, x := range []struct {
		n uint64
		s string
	}{
		{0, "\x00"}, {1, "\x01"}, {127, "\x7f"}, {128, "\x80\x01"}, {129, "\x81\x01"}, {255, "\xff\x01"}, {256, "\x80\x02"},
		{16383, "\xff\x7f"}, {16384, "\x80\x80\x01"}, {2097151, "\xff\xff\x7f"}, {2097152, "\x80\x80\x80\x01"},
		{api.MaxNum, "\x80\x80\x80\x80\x80\x20"}, {1<<63 - 1, strings.Repeat("\xff", 8) + "\x7f"},
		{1 << 63, strings.Repeat("\x80", 9) + "\x01"}, {math.MaxUint64, strings.Repeat("\xff", 9) + "\x01"},
	} {
		if s := nums.Put(x.n); s != x.s {
			t.Errorf("Put(%d): %d", x.n, []byte(s))
		}
	}
	for _, n := range numbers {
		if s := nums.Put(n); s != bytesOf(n) {
			t.Errorf("Put(%d): %d", n, []byte(s))
		}
	}
	// The last number of a count of bytes, and the first one of the next.
	for size := 1; size < 10; size++ {
		var first uint64 = 1 << (7 * size)
		if a, b := len(nums.Put(first-1)), len(nums.Put(first)); a != size || b != size+1 {
			t.Errorf("%d: %d and %d bytes", first, a, b)
		}
	}
}

// P3.1
func TestPutInt(t *testing.T) {
	for _, x := range []struct {
		n int
		s string
	}{
		{0, "\x00"}, {-1, "\x01"}, {1, "\x02"}, {-2, "\x03"}, {2, "\x04"}, {63, "\x7e"}, {-64, "\x7f"}, {64, "\x80\x01"}, {-65, "\x81\x01"},
		{math.MaxInt, "\xfe" + strings.Repeat("\xff", 8) + "\x01"}, {math.MinInt, strings.Repeat("\xff", 9) + "\x01"},
	} {
		if s := nums.PutInt(x.n); s != x.s {
			t.Errorf("PutInt(%d): %d", x.n, []byte(s))
		}
	}
	for _, n := range ints {
		if s := nums.PutInt(n); s != bytesOf(unsigned(n)) {
			t.Errorf("PutInt(%d): %d", n, []byte(s))
		}
	}
}

// rows are of any bytes, texts or none.
func rows() []string {
	l := []string{"", "a", "\x00", "\x80", "\xff", "\xff\xff", "hello", "h\u00e9llo\n", "\xed\xa0\x80", "\x00\x00\x00"}
	for _, n := range []int{126, 127, 128, 129, 300, 16383, 16384, api.MaxBody} {
		l = append(l, strings.Repeat("\xfe", n))
	}
	all := make([]byte, 256)
	for b := range all {
		all[b] = byte(b)
	}
	return append(l, string(all))
}

// P3.1
func TestPutText(t *testing.T) {
	if s := nums.PutText("ab"); s != "\x02ab" {
		t.Errorf("%q", s)
	}
	for _, row := range rows() {
		if s := nums.PutText(row); s != bytesOf(uint64(len(row)))+row {
			t.Errorf("PutText of %d bytes: %d bytes", len(row), len(s))
		}
	}
}

// P3.2: each number, of a most that it just is, and of others.
func TestNum(t *testing.T) {
	for _, n := range numbers {
		s := bytesOf(n)
		for _, most := range append([]uint64{n, n + 1, n - 1}, mosts...) {
			if n > most {
				faults(t, s, api.ErrForm, noNum(most))
				continue
			}
			r := nums.Read(s)
			if got := r.Num(most); got != n || r.End() != api.OK || r.Left() != 0 {
				t.Errorf("Num(%d) of %d: %d, %d, %d left", most, n, got, r.End(), r.Left())
			}
		}
		for _, behind := range []string{"\x00", "\x80", "a", "\xff\xff", strings.Repeat("\xff", 20)} {
			r := nums.Read(s + behind)
			if got := r.Num(n); got != n || r.Fault() != api.OK || r.End() != api.ErrMore || r.Left() != len(behind) {
				t.Errorf("Num of %d: %d, %d, %d, %d left", n, got, r.Fault(), r.End(), r.Left())
			}
		}
	}
}

// P3.2: what is too much, or has a 0 ahead, and bytes that end too soon, of each count of bytes.
func TestNoNum(t *testing.T) {
	all := []func(*nums.Reader) bool{noNum(0), noNum(1), noNum(math.MaxUint64), noInt, noFlag, noText(-1), noText(0), noText(math.MaxInt)}
	faults(t, "", api.ErrShort, all...)
	for size := 1; size <= 14; size++ {
		for _, b := range []string{"\x80", "\x81", "\xff"} {
			s := strings.Repeat(b, size)
			cut := api.ErrShort
			if size >= 10 {
				cut = api.ErrForm
			}
			faults(t, s, cut, all...)
			faults(t, s+"\x00", api.ErrForm, all...)
			if size >= 9 {
				faults(t, s+"\x02", api.ErrForm, all...)
				faults(t, s+"\x7f", api.ErrForm, all...)
			}
			if size >= 10 {
				faults(t, s+"\x01", api.ErrForm, all...)
			}
		}
	}
	nine := strings.Repeat("\xff", 9)
	if n := nums.Read(nine + "\x01").Num(math.MaxUint64); n != math.MaxUint64 {
		t.Error(n)
	}
	faults(t, nine, api.ErrShort, all...)
	faults(t, nine+"\x03", api.ErrForm, all...)
	faults(t, nine+"\x80", api.ErrForm, all...)
}

// P3.2
func TestInt(t *testing.T) {
	for _, n := range ints {
		r := nums.Read(bytesOf(unsigned(n)) + "\x80")
		if got := r.Int(); got != n || r.Fault() != api.OK || r.Left() != 1 {
			t.Errorf("Int of %d: %d, %d, %d left", n, got, r.Fault(), r.Left())
		}
	}
}

// P3.2: rows of just most bytes, of one more, and of fewer.
func TestText(t *testing.T) {
	for _, row := range rows() {
		s := bytesOf(uint64(len(row))) + row
		for _, most := range append([]int{len(row) - 1, len(row), len(row) + 1}, rowMosts...) {
			if len(row) > max(most, 0) {
				faults(t, s, api.ErrForm, noText(most))
				continue
			}
			r := nums.Read(s + "\x80")
			if got := r.Text(most); got != row || r.Fault() != api.OK || r.Left() != 1 {
				t.Errorf("Text(%d) of %d bytes: %d bytes, %d, %d left", most, len(row), len(got), r.Fault(), r.Left())
			}
		}
	}
}

// P3.2: rows that say more than there is: of what is too long it is told ahead of that.
func TestNoText(t *testing.T) {
	for _, n := range []uint64{1, 2, 127, 128, 300, api.MaxBody, 1<<63 - 1} {
		has := min(n-1, 400)
		s := bytesOf(n) + strings.Repeat("a", int(has))
		faults(t, s, api.ErrShort, noText(int(n)), noText(math.MaxInt))
		faults(t, s, api.ErrForm, noText(int(n-1)), noText(0), noText(-1), noText(math.MinInt))
		faults(t, bytesOf(n), api.ErrShort, noText(int(n)))
		faults(t, bytesOf(n), api.ErrForm, noText(int(n-1)), noText(-int(n)))
	}
	for _, n := range []uint64{1 << 63, 1<<63 + 1, math.MaxUint64} {
		faults(t, bytesOf(n)+"a", api.ErrForm, noText(0), noText(-1), noText(math.MaxInt), noText(math.MinInt))
	}
	for _, most := range []int{-1, math.MinInt} {
		r := nums.Read("\x00\x00a")
		if s := r.Text(most); s != "" || r.Fault() != api.OK || r.Left() != 2 {
			t.Errorf("Text(%d) of nothing: %q, %d, %d left", most, s, r.Fault(), r.Left())
		}
	}
}

// P3.2
func TestFlag(t *testing.T) {
	r := nums.Read("\x00\x01\x00\x01\x02")
	for i := range 4 {
		if got := r.Flag(); got != (i%2 == 1) || r.Fault() != api.OK || r.Left() != 4-i {
			t.Errorf("%d: %v, %d, %d left", i, got, r.Fault(), r.Left())
		}
	}
	if r.Flag() || r.Fault() != api.ErrForm || r.Left() != 1 {
		t.Error(r.Fault(), r.Left())
	}
	faults(t, "\x02", api.ErrForm, noFlag)
	faults(t, "\x03\x01", api.ErrForm, noFlag)
	faults(t, "\x81\x00", api.ErrForm, noFlag)
	faults(t, "\x81\x01", api.ErrForm, noFlag)
}

// P3.2, P3.3: each call upon all bytes of up to four behind each other, of those where something begins or ends.
func TestFewBytes(t *testing.T) {
	var grow func(s []byte)
	grow = func(s []byte) {
		holds(t, string(s))
		if len(s) == 4 || len(s) == 3 && testing.Short() {
			return
		}
		for _, b := range edge {
			grow(append(s, b))
		}
	}
	grow(nil)
}

// P3.2, P3.3: numbers of seven to eleven bytes, and what may stand behind them.
func TestManyBytes(t *testing.T) {
	for _, first := range []string{"\x80", "\x81", "\xff", "\xff\x80", "\x80\xff"} {
		for size := 6; size <= 11; size++ {
			s := strings.Repeat(first, size)[:size]
			holds(t, s)
			for _, a := range edge {
				holds(t, s+string([]byte{a}))
				for _, b := range edge {
					holds(t, s+string([]byte{a, b}))
				}
			}
		}
	}
}

// P3.2, P3.3: many things of all sorts behind each other, read as they were put, or as something else.
func TestManyCalls(t *testing.T) {
	r := rand.New(rand.NewSource(1))
	row := func() string {
		s := make([]byte, r.Intn(200))
		r.Read(s)
		return string(s)
	}
	for range 4000 {
		var kinds []int
		s := ""
		for range r.Intn(8) {
			kinds = append(kinds, r.Intn(4))
			switch kinds[len(kinds)-1] {
			case 0:
				s += nums.Put(numbers[r.Intn(len(numbers))])
			case 1:
				s += nums.PutInt(ints[r.Intn(len(ints))])
			case 2:
				s += nums.PutText(row())
			case 3:
				s += nums.Put(uint64(r.Intn(3)))
			}
		}
		if r.Intn(4) == 0 && s != "" {
			s = s[:r.Intn(len(s))]
		}
		b := of(t, s)
		for _, kind := range append(kinds, r.Intn(4), r.Intn(4)) {
			if r.Intn(6) == 0 {
				kind = r.Intn(4)
			}
			b.call(r, kind)
		}
	}
}

func (b both) call(r *rand.Rand, kind int) {
	b.t.Helper()
	switch kind {
	case 0:
		b.num(math.MaxUint64 - uint64(r.Intn(2)))
	case 1:
		b.int()
	case 2:
		b.text([]int{-1, 100, 200, math.MaxInt}[r.Intn(4)])
	case 3:
		b.flag()
	}
}

// P3.3: that bytes are left is no fault: what is asked for then is read.
func TestEnd(t *testing.T) {
	r := nums.Read("\x05\x01a\x01")
	for _, left := range []int{4, 3, 1, 0} {
		want := api.ErrMore
		if left == 0 {
			want = api.OK
		}
		if r.Left() != left || r.End() != want || r.Fault() != api.OK {
			t.Fatalf("%d left, %d, %d", r.Left(), r.End(), r.Fault())
		}
		switch left {
		case 4:
			if n := r.Num(9); n != 5 {
				t.Error(n)
			}
		case 3:
			if s := r.Text(1); s != "a" {
				t.Error(s)
			}
		case 1:
			if n := r.Int(); n != -1 {
				t.Error(n)
			}
		}
	}
	if r.Num(9) != 0 || r.Fault() != api.ErrShort || r.End() != api.ErrShort {
		t.Error(r.Fault(), r.End())
	}
}

// P3.2, P3.3: the first fault stays, whatever comes that would be another one, or none.
func TestFirstFaultStays(t *testing.T) {
	r := nums.Read("\x07\x03\x01ab")
	if n := r.Num(7); n != 7 {
		t.Fatal(n)
	}
	for _, read := range []func(*nums.Reader) bool{noText(2), noText(3), noNum(3), noInt, noFlag, noNum(2)} {
		if !read(r) || r.Fault() != api.ErrForm || r.End() != api.ErrForm || r.Left() != 4 {
			t.Error(r.Fault(), r.End(), r.Left())
		}
	}
	r = nums.Read("\x03ab")
	for _, read := range []func(*nums.Reader) bool{noText(3), noText(1), noFlag, noNum(0), noInt, noNum(9)} {
		if !read(r) || r.Fault() != api.ErrShort || r.End() != api.ErrShort || r.Left() != 3 {
			t.Error(r.Fault(), r.End(), r.Left())
		}
	}
}

// P3.3: of nil: zero, ErrShort of Fault and End.
func TestNil(t *testing.T) {
	var r *nums.Reader
	for range 2 {
		for _, most := range mosts {
			if n := r.Num(most); n != 0 {
				t.Error(n)
			}
		}
		for _, most := range rowMosts {
			if s := r.Text(most); s != "" {
				t.Error(s)
			}
		}
		if r.Int() != 0 || r.Flag() || r.Left() != 0 || r.Fault() != api.ErrShort || r.End() != api.ErrShort {
			t.Error(r.Int(), r.Flag(), r.Left(), r.Fault(), r.End())
		}
	}
}

// P3.2, P3.3: a zero reader is at the beginning of no bytes.
func TestZeroReader(t *testing.T) {
	var r nums.Reader
	if r.Left() != 0 || r.Fault() != api.OK || r.End() != api.OK {
		t.Error(r.Left(), r.Fault(), r.End())
	}
	if r.Num(1) != 0 || r.Fault() != api.ErrShort || r.End() != api.ErrShort {
		t.Error(r.Fault(), r.End())
	}
}

// P3.4: what is put is read again, one thing behind the other.
func TestThereAndBack(t *testing.T) {
	var s strings.Builder
	for _, n := range numbers {
		s.WriteString(nums.Put(n))
	}
	for _, n := range ints {
		s.WriteString(nums.PutInt(n))
	}
	for _, row := range rows() {
		s.WriteString(nums.PutText(row))
	}
	r := nums.Read(s.String())
	for _, n := range numbers {
		if got := r.Num(n); got != n {
			t.Fatalf("Num: %d, not %d", got, n)
		}
	}
	for _, n := range ints {
		if got := r.Int(); got != n {
			t.Fatalf("Int: %d, not %d", got, n)
		}
	}
	for _, row := range rows() {
		if got := r.Text(len(row)); got != row {
			t.Fatalf("Text: %d bytes, not %d", len(got), len(row))
		}
	}
	if r.Left() != 0 || r.Fault() != api.OK || r.End() != api.OK {
		t.Error(r.Left(), r.Fault(), r.End())
	}
}

// P3.4: whatever is read as a number, or as a row, is just what is put of it.
func TestNothingElseIsRead(t *testing.T) {
	check := func(s string) {
		t.Helper()
		r := nums.Read(s)
		putAs(t, r, s, nums.Put(r.Num(math.MaxUint64)))
		r = nums.Read(s)
		putAs(t, r, s, nums.PutInt(r.Int()))
		r = nums.Read(s)
		putAs(t, r, s, nums.PutText(r.Text(math.MaxInt)))
	}
	for a := range 256 {
		check(string([]byte{byte(a)}))
		for b := range 256 {
			check(string([]byte{byte(a), byte(b)}))
		}
	}
	r := rand.New(rand.NewSource(2))
	for range 100000 {
		s := make([]byte, r.Intn(13))
		for i := range s {
			s[i] = byte(r.Intn(256)) | 128
			if r.Intn(12) == 0 {
				s[i] = edge[r.Intn(len(edge))]
			}
		}
		check(string(s))
	}
}

// putAs checks that what r passed of s, unless it faulted, is just what was put.
func putAs(t *testing.T, r *nums.Reader, s, put string) {
	t.Helper()
	if passed := s[:len(s)-r.Left()]; r.Fault() == api.OK && passed != put {
		t.Fatalf("%d is read as %d", []byte(passed), []byte(put))
	}
}

// Rule 5: a reader keeps nothing of what it was handed; what is told is new memory, and stays as it was told.
func TestMemory(t *testing.T) {
	kept := []byte("\x03abc\x03abc\x05")
	s := unsafe.String(&kept[0], len(kept))
	r, twin := nums.Read(s), nums.Read(s)
	told := []string{s}
	for range 2 {
		told = append(told, r.Text(3), twin.Text(3), nums.Put(5), nums.Put(300), nums.PutInt(1), nums.PutText(""), nums.PutText(s[1:4]))
	}
	for i, x := range told {
		for _, y := range told[:i] {
			if shares(x, y) {
				t.Errorf("%q shares memory with %q", x, y)
			}
		}
	}
	if string(kept) != "\x03abc\x03abc\x05" {
		t.Errorf("%q", kept)
	}
	clear(kept)
	if n := r.Num(9); n != 5 || r.End() != api.OK {
		t.Error(n, r.End())
	}
	if told[1] != "abc" || told[8] != "abc" {
		t.Errorf("%q, %q", told[1], told[8])
	}
}

// Rule 5: rows that are told aren't pieces of what the reader keeps: they don't lie as far from each other as there.
func TestNoPieces(t *testing.T) {
	row := strings.Repeat("a", 40)
	r := nums.Read(nums.PutText(row) + nums.PutText(row))
	one, two := r.Text(40), r.Text(40)
	if one != row || two != row || address(two)-address(one) == uintptr(len(nums.PutText(row))) {
		t.Error("Text tells pieces")
	}
}

func address(s string) uintptr { return uintptr(unsafe.Pointer(unsafe.StringData(s))) }

func shares(a, b string) bool {
	x, y := address(a), address(b)
	return x < y+uintptr(len(b)) && y < x+uintptr(len(a))
}

// Rule 6: two readers of the same bytes go each their own way.
func TestApart(t *testing.T) {
	s := nums.Put(7) + nums.PutText("x") + nums.PutInt(-3)
	one, two := nums.Read(s), nums.Read(s)
	if one.Num(6) != 0 || one.Fault() != api.ErrForm {
		t.Error(one.Fault())
	}
	if n, row, i := two.Num(7), two.Text(1), two.Int(); n != 7 || row != "x" || i != -3 || two.End() != api.OK {
		t.Error(n, row, i, two.End())
	}
	if one.Left() != len(s) || one.End() != api.ErrForm {
		t.Error(one.Left(), one.End())
	}
}
