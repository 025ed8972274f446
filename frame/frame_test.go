package frame_test

import (
	"hash/crc32"
	"math"
	"math/big"
	"math/rand"
	"slices"
	"strings"
	"testing"
	"unsafe"

	"foolscap/api"
	"foolscap/crc"
	"foolscap/frame"
	"foolscap/nums"
)

// library is made by somebody else: the same sums by another hand.
var library = crc32.MakeTable(crc32.Castagnoli)

// edge bytes: the least and the greatest of each sort, those beside them, and those that a frame begins with.
var edge = []byte{0, 1, 2, 3, 16, 17, 70, 83, 127, 128, 129, 255}

// numberOf follows chapter 3's words: digits of seven bits, the lowest first.
func numberOf(n *big.Int) string {
	var s []byte
	rest := new(big.Int).Set(n)
	for {
		digit := new(big.Int)
		rest.DivMod(rest, big.NewInt(128), digit)
		if rest.Sign() == 0 {
			return string(append(s, byte(digit.Int64())))
		}
		s = append(s, byte(digit.Int64()+128))
	}
}

func num(n int) string { return numberOf(big.NewInt(int64(n))) }

// power tells the bytes of a power of two, with so much added.
func power(bits uint, more int64) string {
	n := new(big.Int).Lsh(big.NewInt(1), bits)
	return numberOf(n.Add(n, big.NewInt(more)))
}

// summed tells bytes with their sum behind them, the lowest byte first.
func summed(s string) string {
	sum := crc32.Checksum([]byte(s), library)
	return s + string([]byte{byte(sum), byte(sum >> 8), byte(sum >> 16), byte(sum >> 24)})
}

// head tells what stands ahead of a frame's numbers.
func head(kind byte) string { return string([]byte{70, 83, kind}) }

// bytesOf follows the chapter's words, whatever the fields, from 0 on.
func bytesOf(f frame.Frame) string {
	s := head(byte(f.Kind)) + num(f.Site)
	if f.Kind == 1 {
		s += num(f.Seq)
	}
	s += num(f.Ack)
	if f.Kind == 1 {
		s += num(len(f.Body)) + f.Body
	}
	return summed(s)
}

// model goes along the bytes of a frame by the chapters' words alone.
type model struct {
	rest string
	e    api.Errno
}

// num tells the number that stands next, or its first fault.
func (m *model) num(most int64) int {
	if m.e != api.OK {
		return 0
	}
	ten := []byte(m.rest[:min(len(m.rest), 10)])
	last := slices.IndexFunc(ten, func(b byte) bool { return b < 128 })
	if last < 0 {
		m.e = api.ErrShort
		if len(ten) == 10 {
			m.e = api.ErrForm
		}
		return 0
	}
	n := new(big.Int)
	for i := last; i >= 0; i-- {
		n.Mul(n, big.NewInt(128)).Add(n, big.NewInt(int64(m.rest[i]%128)))
	}
	if !n.IsUint64() || m.rest[last] == 0 && last > 0 || n.Cmp(big.NewInt(most)) > 0 {
		m.e = api.ErrForm
		return 0
	}
	m.rest = m.rest[last+1:]
	return int(n.Int64())
}

func (m *model) row(most int64) string {
	n := m.num(most)
	if m.e == api.OK && n > len(m.rest) {
		m.e = api.ErrShort
	}
	if m.e != api.OK {
		return ""
	}
	s := m.rest[:n]
	m.rest = m.rest[n:]
	return s
}

// got follows the chapter's words of what Get tells, from the left.
func got(s string) (frame.Frame, api.Errno) {
	if len(s) < 3 {
		return frame.Frame{}, api.ErrShort
	}
	if s[0] != 70 || s[1] != 83 || s[2] != 1 && s[2] != 2 {
		return frame.Frame{}, api.ErrForm
	}
	m := &model{rest: s[3:]}
	f := frame.Frame{Kind: int(s[2])}
	f.Site = m.num(16)
	if f.Kind == 1 {
		f.Seq = m.num(1 << 40)
	}
	f.Ack = m.num(1 << 40)
	if f.Kind == 1 {
		f.Body = m.row(1 << 20)
	}
	switch {
	case m.e != api.OK:
	case len(m.rest) < 4:
		m.e = api.ErrShort
	case len(m.rest) > 4:
		m.e = api.ErrMore
	case summed(s[:len(s)-4]) != s:
		m.e = api.ErrSum
	case f.Site == 0 || f.Kind == 1 && f.Seq == 0:
		m.e = api.ErrForm
	}
	if m.e != api.OK {
		return frame.Frame{}, m.e
	}
	return f, api.OK
}

// holds checks what Get tells of any bytes against the model; what is got is put as it stood.
func holds(t *testing.T, s string) {
	t.Helper()
	want, e := got(s)
	f, err := frame.Get(s)
	if f != want || err != e {
		t.Fatalf("%s: %s, %d, not %s, %d", few(s), tell(f), err, tell(want), e)
	}
	if err != api.OK {
		return
	}
	if again, err := frame.Put(f); !frame.May(f) || again != s || err != api.OK {
		t.Fatalf("%s: got, and put as %s, %d", few(s), few(again), err)
	}
}

// faults checks that Get tells an error, the one that is expected, and a zero frame beside it.
func faults(t *testing.T, what, s string, e api.Errno) {
	t.Helper()
	if f, err := frame.Get(s); err != e || f != (frame.Frame{}) {
		t.Errorf("%s, %s: %s, %d, not %d", what, few(s), tell(f), err, e)
	}
	holds(t, s)
}

// few tells bytes shortly enough to be read.
func few(s string) string {
	q := strings.Builder{}
	for _, b := range []byte(s[:min(len(s), 40)]) {
		q.WriteString(big.NewInt(int64(b)).String() + " ")
	}
	return q.String() + "(" + big.NewInt(int64(len(s))).String() + " bytes)"
}

func tell(f frame.Frame) string {
	q := ""
	for _, n := range []int{f.Kind, f.Site, f.Seq, f.Ack} {
		q += big.NewInt(int64(n)).String() + " "
	}
	return q + few(f.Body)
}

// anyBytes tells n bytes of whatever value.
func anyBytes(r *rand.Rand, n int) string {
	s := make([]byte, n)
	r.Read(s)
	return string(s)
}

// counts are numbers of a Seq: the least, the greatest, and those about each count of bytes.
var counts = []int{1, 2, 126, 127, 128, 129, 16383, 16384, 1<<21 - 1, 1 << 21, 1<<28 - 1, 1 << 28, 1<<35 - 1, 1 << 35, 1<<40 - 1, 1 << 40}

// bodies are rows of any bytes, texts or none, up to some hundreds.
func bodies() []string {
	l := []string{"", "a", "\x00", "\xff", "hello", "h\u00e9llo\n", "\x80\x80\x80\x80", "\x00\x00\x00\x00\x00", "FS\x02\x03\x05"}
	r := rand.New(rand.NewSource(1))
	for _, n := range []int{3, 4, 5, 126, 127, 128, 129, 255, 300} {
		l = append(l, anyBytes(r, n))
	}
	return append(l, bytesOf(frame.Frame{Kind: 2, Site: 1}), bytesOf(frame.Frame{Kind: 1, Site: 16, Seq: 300, Ack: 7, Body: "in a body"}))
}

// frames are such as may be, of both kinds, at each field's least, greatest, and between.
func frames() []frame.Frame {
	var l []frame.Frame
	for site := 1; site <= 16; site++ {
		for _, ack := range append([]int{0}, counts...) {
			l = append(l, frame.Frame{Kind: 2, Site: site, Ack: ack})
			l = append(l, frame.Frame{Kind: 1, Site: site, Seq: 17 - site, Ack: ack, Body: "ab"})
		}
		for _, seq := range counts {
			l = append(l, frame.Frame{Kind: 1, Site: site, Seq: seq, Ack: site - 1, Body: "\xfe"})
		}
		for _, body := range bodies() {
			l = append(l, frame.Frame{Kind: 1, Site: site, Seq: 300, Ack: 5, Body: body})
		}
	}
	return l
}

// large are frames of the greatest bodies.
func large() []frame.Frame {
	r := rand.New(rand.NewSource(2))
	var l []frame.Frame
	for _, n := range []int{16383, 16384, 1<<20 - 1, 1 << 20} {
		l = append(l, frame.Frame{Kind: 1, Site: 7, Seq: 1 << 40, Ack: 1 << 40, Body: anyBytes(r, n)})
	}
	return append(l, frame.Frame{Kind: 1, Site: 1, Seq: 1, Body: strings.Repeat("\x00", 1<<20)})
}

// small are some frames to be cut and changed at each of their bytes.
func small() []frame.Frame {
	return []frame.Frame{
		{Kind: 2, Site: 3, Ack: 5},
		{Kind: 2, Site: 1},
		{Kind: 2, Site: 16, Ack: 1 << 40},
		{Kind: 1, Site: 1, Seq: 1},
		{Kind: 1, Site: 2, Seq: 300, Ack: 128, Body: "hello"},
		{Kind: 1, Site: 16, Seq: 1 << 40, Ack: 1 << 40, Body: "\x00\xff\x80"},
		{Kind: 1, Site: 9, Seq: 7, Ack: 6, Body: strings.Repeat("\x80", 200)},
		{Kind: 1, Site: 9, Seq: 7, Ack: 6, Body: bytesOf(frame.Frame{Kind: 2, Site: 3, Ack: 5})},
	}
}

// The chapter's examples.
func TestExamples(t *testing.T) {
	f := frame.Frame{Kind: 2, Site: 3, Seq: 0, Ack: 5}
	s, e := frame.Put(f)
	if e != api.OK || len(s) != 9 || s[:5] != string([]byte{70, 83, 2, 3, 5}) || s[5:] != crc.Put(crc.Sum(s[:5])) {
		t.Errorf("%s, %d", few(s), e)
	}
	if back, e := frame.Get(s); back != f || e != api.OK {
		t.Errorf("%s, %d", tell(back), e)
	}
	if none, e := frame.Get(""); none != (frame.Frame{}) || e != api.ErrShort {
		t.Errorf("%s, %d", tell(none), e)
	}
}

// P5.1: frames as they are written out.
func TestBytes(t *testing.T) {
	for _, x := range []struct {
		f frame.Frame
		s string
	}{
		{frame.Frame{Kind: 2, Site: 1}, "FS\x02\x01\x00"},
		{frame.Frame{Kind: 2, Site: 16, Ack: 300}, "FS\x02\x10\xac\x02"},
		{frame.Frame{Kind: 1, Site: 1, Seq: 1}, "FS\x01\x01\x01\x00\x00"},
		{frame.Frame{Kind: 1, Site: 2, Seq: 300, Ack: 128, Body: "abc"}, "FS\x01\x02\xac\x02\x80\x01\x03abc"},
		{frame.Frame{Kind: 1, Site: 16, Seq: 1 << 40, Ack: 1 << 40, Body: "\xff\x00"}, "FS\x01\x10\x80\x80\x80\x80\x80\x20\x80\x80\x80\x80\x80\x20\x02\xff\x00"},
	} {
		if s, e := frame.Put(x.f); s != summed(x.s) || e != api.OK {
			t.Errorf("%s: %s, %d", tell(x.f), few(s), e)
		}
	}
}

// P5.1, P5.2, P5.3: what may be is put by its bytes, and got again.
func TestThereAndBack(t *testing.T) {
	for _, f := range append(frames(), large()...) {
		if !frame.May(f) {
			t.Fatalf("May(%s)", tell(f))
		}
		s, e := frame.Put(f)
		if s != bytesOf(f) || e != api.OK {
			t.Fatalf("Put(%s): %s, %d", tell(f), few(s), e)
		}
		if back, e := frame.Get(s); back != f || e != api.OK {
			t.Fatalf("Get(%s): %s, %d", few(s), tell(back), e)
		}
		holds(t, s)
	}
}

// beyond are frames that may not be, each with one field that isn't as it must be.
func beyond() []frame.Frame {
	var l []frame.Frame
	for _, good := range []frame.Frame{{Kind: 1, Site: 1, Seq: 1}, {Kind: 1, Site: 16, Seq: 1 << 40, Ack: 1 << 40, Body: "ab"}, {Kind: 2, Site: 1}, {Kind: 2, Site: 16, Ack: 1 << 40}} {
		for _, n := range []int{math.MinInt, math.MinInt + 1, -256, -2, -1, 0, 3, 4, 127, 128, 129, 130, 255, 256, 257, 258, 1<<32 + 1, 1<<32 + 2, math.MaxInt - 1, math.MaxInt} {
			l = append(l, frame.Frame{Kind: n, Site: good.Site, Seq: good.Seq, Ack: good.Ack, Body: good.Body})
			l = append(l, frame.Frame{Kind: n, Site: good.Site, Ack: good.Ack})
		}
		for _, n := range []int{math.MinInt, -17, -16, -1, 0, 17, 18, 127, 128, 256, 257, 1<<32 + 1, 1 << 40, math.MaxInt} {
			l = append(l, frame.Frame{Kind: good.Kind, Site: n, Seq: good.Seq, Ack: good.Ack, Body: good.Body})
		}
		for _, n := range []int{math.MinInt, math.MinInt + 1, -1 << 40, -2, -1, 1<<40 + 1, 1<<40 + 2, 1 << 41, 1 << 62, math.MaxInt} {
			l = append(l, frame.Frame{Kind: good.Kind, Site: good.Site, Seq: good.Seq, Ack: n, Body: good.Body})
			l = append(l, frame.Frame{Kind: good.Kind, Site: good.Site, Seq: n, Ack: good.Ack, Body: good.Body})
		}
	}
	for _, ack := range []int{0, 5, 1 << 40} {
		l = append(l, frame.Frame{Kind: 1, Site: 3, Ack: ack}, frame.Frame{Kind: 1, Site: 3, Ack: ack, Body: "ab"})
		for _, seq := range counts {
			l = append(l, frame.Frame{Kind: 2, Site: 3, Seq: seq, Ack: ack})
		}
		for _, body := range []string{"a", "\x00", "\xff", "hello", strings.Repeat("z", 1<<20), strings.Repeat("z", 1<<20+1)} {
			l = append(l, frame.Frame{Kind: 2, Site: 3, Ack: ack, Body: body}, frame.Frame{Kind: 2, Site: 3, Seq: 9, Ack: ack, Body: body})
		}
		for _, more := range []int{1, 2, 1 << 20} {
			l = append(l, frame.Frame{Kind: 1, Site: 3, Seq: 9, Ack: ack, Body: strings.Repeat("z", 1<<20+more)})
		}
	}
	return append(l, frame.Frame{}, frame.Frame{Kind: 3, Site: 17, Seq: -1, Ack: -1, Body: "a"})
}

// P5.1
func TestMayNot(t *testing.T) {
	for _, f := range beyond() {
		if frame.May(f) {
			t.Errorf("May(%s)", tell(f))
		}
		if s, e := frame.Put(f); s != "" || e != api.ErrArg {
			t.Errorf("Put(%s): %s, %d", tell(f), few(s), e)
		}
	}
}

// P5.2: fewer than 3 bytes are too few, whichever they are.
func TestFewBytes(t *testing.T) {
	faults(t, "nothing", "", api.ErrShort)
	for a := range 256 {
		faults(t, "one byte", string([]byte{byte(a)}), api.ErrShort)
		for b := range 256 {
			faults(t, "two bytes", string([]byte{byte(a), byte(b)}), api.ErrShort)
		}
	}
	for kind := range 256 {
		e := api.ErrForm
		if kind == 1 || kind == 2 {
			e = api.ErrShort
		}
		faults(t, "three bytes", head(byte(kind)), e)
	}
}

// P5.2: other bytes at the beginning, ahead of all that is right, and of all that isn't.
func TestBegins(t *testing.T) {
	for _, f := range small() {
		good := bytesOf(f)
		for at := range 3 {
			for b := range 256 {
				l := []byte(good)
				if l[at] == byte(b) || at == 2 && (b == 1 || b == 2) {
					continue
				}
				l[at] = byte(b)
				faults(t, "its sum isn't right", string(l), api.ErrForm)
				faults(t, "its sum is right", summed(string(l[:len(l)-4])), api.ErrForm)
				faults(t, "nothing behind", string(l[:3]), api.ErrForm)
				faults(t, "more behind", string(l)+"z", api.ErrForm)
			}
		}
	}
	faults(t, "turned about", summed("SF\x02\x03\x05"), api.ErrForm)
	faults(t, "a byte ahead", "z"+bytesOf(frame.Frame{Kind: 2, Site: 3, Ack: 5}), api.ErrForm)
	// A kind is a byte, not a number.
	faults(t, "a kind of two bytes", summed("FS\x81\x00\x03\x05"), api.ErrForm)
	faults(t, "a kind of two bytes", summed("FS\x82\x00\x03\x05"), api.ErrForm)
}

// P5.2: a kind read as the other one.
func TestOtherKind(t *testing.T) {
	// Of the kind 2 what stands behind Ack is too much, or the sum; of the kind 1 what isn't there is too little.
	faults(t, "a body of the kind 2", summed("FS\x02\x03\x05\x07\x02ab"), api.ErrMore)
	faults(t, "a Seq of the kind 2", summed("FS\x02\x03\x05\x07"), api.ErrMore)
	s := summed("FS\x01\x03\x05")
	if e := api.ErrShort; s[5] > 127 || s[6] < 4 {
		t.Error(few(s))
	} else {
		faults(t, "no Ack and no body", s, e)
	}
}

// P5.2: frames cut off after each of their bytes.
func TestCutOff(t *testing.T) {
	for _, f := range small() {
		s := bytesOf(f)
		for n := range len(s) {
			faults(t, "cut off", s[:n], api.ErrShort)
		}
	}
	for _, f := range large() {
		s := bytesOf(f)
		for _, n := range []int{3, 4, 10, 17, 18, 19, 20, 21, len(s) / 2, len(s) - 6, len(s) - 5, len(s) - 4, len(s) - 3, len(s) - 2, len(s) - 1} {
			faults(t, "cut off", s[:n], api.ErrShort)
		}
	}
}

// P5.2: cut off ahead of the sum, or in it, with a sum that fits what is there, or of fewer bytes.
func TestShortOfASum(t *testing.T) {
	for _, f := range small() {
		s := bytesOf(f)
		fields := s[:len(s)-4]
		for n := range 4 {
			for _, tail := range []string{"\x00\x00\x00\x00", "\xff\xff\xff\xff", "\x80\x80\x80\x80", s[len(s)-4:]} {
				faults(t, "a short sum", fields+tail[:n], api.ErrShort)
			}
		}
	}
}

// P5.2: frames with bytes behind them, whatever these are, another frame too.
func TestMore(t *testing.T) {
	for _, f := range append(small(), large()...) {
		s := bytesOf(f)
		for _, behind := range []string{"\x00", "\xff", "z", "\x00\x00\x00\x00", s[len(s)-4:], strings.Repeat("\x80", 20), bytesOf(frame.Frame{Kind: 2, Site: 3, Ack: 5})} {
			faults(t, "bytes behind", s+behind, api.ErrMore)
			faults(t, "bytes behind and in the sum", summed(s+behind), api.ErrMore)
			faults(t, "bytes behind and in the sum", summed(s[:len(s)-4]+behind), api.ErrMore)
		}
	}
}

// field is where a number of a frame stands: what is ahead of it, what is behind it, and how great it may be.
type field struct {
	what, ahead, behind string
	most                int
}

// with tells a frame's bytes, its sum's too, with a number at the field; a row has as many bytes as its length says.
func (x field) with(n int) string {
	if x.most == 1<<20 {
		return summed(x.ahead + num(n) + strings.Repeat("q", n))
	}
	return summed(x.ahead + num(n) + x.behind)
}

// numbers are the places of all numbers of both kinds.
func numbers() []field {
	return []field{
		{"the site of the kind 2", head(2), "\x05", 16},
		{"Ack of the kind 2", head(2) + "\x03", "", 1 << 40},
		{"the site", head(1), "\x07\x05\x02ab", 16},
		{"Seq", head(1) + "\x03", "\x05\x02ab", 1 << 40},
		{"Ack", head(1) + "\x03\x07", "\x02ab", 1 << 40},
		{"the row's length", head(1) + "\x03\x07\x05", "ab", 1 << 20},
	}
}

// P5.2: numbers as great as they may be, and greater ones, up to those that no number has; ahead of all that is wrong behind them.
func TestGreatNumbers(t *testing.T) {
	for _, x := range numbers() {
		for _, n := range []int{1, x.most - 1, x.most} {
			s := x.with(n)
			if f, e := frame.Get(s); e != api.OK || !frame.May(f) {
				t.Errorf("%s, %s: %d", x.what, few(s), e)
			}
			holds(t, s)
		}
		for _, n := range []string{num(x.most + 1), num(x.most + 2), num(2 * x.most), num(1<<40 + 1), power(62, 0), power(63, -1), power(63, 0), power(64, -1), power(64, 0), power(64, 5), power(69, 0), power(70, -1), power(70, 0), strings.Repeat("\x80", 10), strings.Repeat("\xff", 12)} {
			for _, tail := range []string{"", "\x80", x.behind, x.behind + "q"} {
				faults(t, x.what+" beyond", x.ahead+n+tail, api.ErrForm)
				faults(t, x.what+" beyond", summed(x.ahead+n+tail), api.ErrForm)
			}
		}
		if x.most == 1<<20 {
			faults(t, "a row beyond", x.with(x.most+1), api.ErrForm)
		}
	}
}

// P5.2: numbers that take more bytes than they need, with a sum that is right.
func TestLongNumbers(t *testing.T) {
	for _, x := range numbers() {
		for _, n := range []string{"\x80\x00", "\x81\x00", "\x82\x00", "\x81\x80\x00", "\xff\x00", "\x80\x80\x80\x00", strings.Repeat("\x80", 8) + "\x00", strings.Repeat("\x80", 9) + "\x00"} {
			faults(t, x.what+" too long", summed(x.ahead+n+x.behind), api.ErrForm)
			faults(t, x.what+" too long", x.ahead+n, api.ErrForm)
		}
	}
}

// P5.2: numbers of which no end comes: of fewer than ten bytes too short, of ten not of the form.
func TestEndlessNumbers(t *testing.T) {
	for _, x := range numbers() {
		for n := range 14 {
			for _, b := range []string{"\x80", "\x81", "\xff"} {
				e := api.ErrShort
				if n >= 10 {
					e = api.ErrForm
				}
				faults(t, x.what+" without an end", x.ahead+strings.Repeat(b, n), e)
			}
		}
	}
}

// P5.2: rows that say more than there is: what is left for the sum isn't the body's.
func TestShortRows(t *testing.T) {
	ahead := head(1) + "\x03\x07\x05"
	for size := range 20 {
		row := strings.Repeat("r", size)
		for says := range 40 {
			s := summed(ahead + num(says) + row)
			switch {
			case says > size:
				faults(t, "a row that is too short", s, api.ErrShort)
			case says < size:
				faults(t, "a row that is too long", s, api.ErrMore)
			default:
				holds(t, s)
			}
		}
	}
	for _, says := range []int{128, 16384, 1 << 20} {
		faults(t, "a row that is too short", summed(ahead+num(says)+"rrr"), api.ErrShort)
	}
}

// P5.2: each bit of the sum, its bytes in another order, and the sums of other bytes.
func TestSum(t *testing.T) {
	for _, f := range append(small(), large()[0]) {
		s := bytesOf(f)
		at := len(s) - 4
		for bit := range 32 {
			l := []byte(s)
			l[at+bit/8] ^= 1 << (bit % 8)
			faults(t, "a bit of the sum", string(l), api.ErrSum)
		}
		turned := []byte(s[at:])
		slices.Reverse(turned)
		sum := crc32.Checksum([]byte(s[:at]), library)
		for _, tail := range []string{string(turned), crc.Put(^sum), crc.Put(crc.Sum(s[1:at])), crc.Put(crc.Sum(s[2:at])), crc.Put(crc.Sum(s[3:at])), crc.Put(crc.Sum(s[:at-1])), crc.Put(crc.Sum(s)), "\x00\x00\x00\x00", "\xff\xff\xff\xff"} {
			faults(t, "another sum", s[:at]+tail, api.ErrSum)
		}
	}
}

// P5.2: a site, or a Seq, of 0 is told last of all.
func TestZeros(t *testing.T) {
	for _, x := range []struct{ what, s string }{
		{"a site of 0 of the kind 2", head(2) + "\x00\x05"},
		{"a site and an Ack of 0", head(2) + "\x00\x00"},
		{"a site of 0", head(1) + "\x00\x07\x05\x02ab"},
		{"a Seq of 0", head(1) + "\x03\x00\x05\x02ab"},
		{"a Seq of 0 and no body", head(1) + "\x03\x00\x00\x00"},
		{"a site and a Seq of 0", head(1) + "\x00\x00\x05\x02ab"},
	} {
		good := summed(x.s)
		faults(t, x.what, good, api.ErrForm)
		faults(t, x.what+", cut off", good[:len(good)-1], api.ErrShort)
		faults(t, x.what+", with more behind", good+"\x00", api.ErrMore)
		faults(t, x.what+", of another sum", x.s+"\x01\x02\x03\x04", api.ErrSum)
	}
	for _, s := range []string{head(2) + "\x03\x00", head(1) + "\x03\x07\x00\x02ab"} {
		if f, e := frame.Get(summed(s)); e != api.OK || f.Ack != 0 {
			t.Errorf("an Ack of 0: %s, %d", tell(f), e)
		}
	}
}

// P5.2: where several things are wrong, that is told which stands first from the left.
func TestFirstFromTheLeft(t *testing.T) {
	big, long, open := num(1<<40+1), "\x80\x00", "\x80"
	for _, x := range []struct {
		s string
		e api.Errno
	}{
		{"XX", api.ErrShort},
		{"XS\x03", api.ErrForm},
		{head(3) + open, api.ErrForm},
		{head(2) + open, api.ErrShort},
		{head(2) + "\x11" + open, api.ErrForm},
		{head(2) + "\x10" + open, api.ErrShort},
		{head(2) + "\x00" + big, api.ErrForm},
		{head(2) + "\x00\x05\x00", api.ErrShort},
		{head(2) + "\x00\x05\x00\x00\x00\x00\x00", api.ErrMore},
		{head(2) + "\x00\x05\x00\x00\x00\x00", api.ErrSum},
		{head(1) + long + open, api.ErrForm},
		{head(1) + "\x00\x00" + open, api.ErrShort},
		{head(1) + "\x03" + big + open, api.ErrForm},
		{head(1) + "\x03\x00" + big, api.ErrForm},
		{head(1) + "\x03\x00\x05" + num(1<<20+1), api.ErrForm},
		{head(1) + "\x03\x00\x05\x09ab", api.ErrShort},
		{head(1) + "\x03\x00\x05\x02ab", api.ErrShort},
		{head(1) + "\x03\x00\x05\x02ab\x00\x00\x00", api.ErrShort},
		{head(1) + "\x03\x00\x05\x02ab\x00\x00\x00\x00", api.ErrSum},
		{head(1) + "\x03\x00\x05\x02ab\x00\x00\x00\x00\x00", api.ErrMore},
	} {
		faults(t, "several", x.s, x.e)
	}
}

// P5.2, P5.3: all bytes of edges, up to five behind each beginning, as they are, and with the sum that is theirs.
func TestBytesOfEdges(t *testing.T) {
	var grow func(s string, left int)
	grow = func(s string, left int) {
		holds(t, s)
		holds(t, summed(s))
		if left == 0 {
			return
		}
		for _, b := range edge {
			grow(s+string([]byte{b}), left-1)
		}
	}
	grow(head(1), 4)
	grow(head(2), 4)
	grow(head(1)+"\x03\x07", 4)
	grow(head(1)+"\x03\x07\x05\x02", 4)
	grow("", 3)
}

// P5.2, P5.3: frames that were changed by chance, with the sum they had or one that is theirs.
func TestAnyChanges(t *testing.T) {
	r := rand.New(rand.NewSource(3))
	all := frames()
	for range 40000 {
		l := []byte(bytesOf(all[r.Intn(len(all))]))
		for range 1 + r.Intn(3) {
			at := r.Intn(len(l))
			switch r.Intn(4) {
			case 0:
				l[at] = byte(r.Intn(256))
			case 1:
				l[at] = edge[r.Intn(len(edge))]
			case 2:
				l = slices.Insert(l, at, edge[r.Intn(len(edge))])
			case 3:
				l = slices.Delete(l, at, at+1)
			}
		}
		holds(t, string(l))
		holds(t, summed(string(l)))
		if len(l) > 4 {
			holds(t, summed(string(l[:len(l)-4])))
		}
	}
	for range 20000 {
		s := anyBytes(r, r.Intn(30))
		holds(t, s)
		holds(t, head(byte(1+r.Intn(2)))+s)
		holds(t, summed(head(byte(1+r.Intn(2)))+s))
	}
}

// isnt checks that what a frame was changed to isn't got as it was: its sum tells of any change within four bytes in a row.
func isnt(t *testing.T, f frame.Frame, s string) {
	t.Helper()
	back, e := frame.Get(s)
	if back == f || e == api.OK || back != (frame.Frame{}) {
		t.Fatalf("%s, changed to %s: %s, %d", tell(f), few(s), tell(back), e)
	}
}

// changed tells s with the bytes of by made one with those from a place on, as many as there are.
func changed(s string, at int, by string) string {
	l := []byte(s)
	for i := 0; i < len(by) && at+i < len(l); i++ {
		l[at+i] ^= by[i]
	}
	return string(l)
}

// P5.3: each byte changed in each way, and each run of four in many, from the beginning to the end, the sum too.
func TestChangedWithinFourBytes(t *testing.T) {
	r := rand.New(rand.NewSource(4))
	for _, f := range small() {
		s := bytesOf(f)
		for at := range len(s) {
			for b := 1; b < 256; b++ {
				isnt(t, f, changed(s, at, string([]byte{byte(b)})))
			}
			for range 300 {
				isnt(t, f, changed(s, at, string([]byte{byte(1 + r.Intn(255))})+anyBytes(r, 1+r.Intn(3))))
			}
			for _, by := range []string{"\x01\x01", "\xff\xff\xff\xff", "\x80\x80\x80\x80", "\x01\x00\x00\x80", "\x80\x00\x00\x01"} {
				isnt(t, f, changed(s, at, by))
			}
		}
	}
	for _, f := range large() {
		s := bytesOf(f)
		for _, at := range []int{0, 1, 3, 5, 16, 19, 20, len(s) / 2, len(s) - 8, len(s) - 7, len(s) - 6, len(s) - 5, len(s) - 4} {
			isnt(t, f, changed(s, at, "\x01"))
			isnt(t, f, changed(s, at, string([]byte{byte(1 + r.Intn(255))})+anyBytes(r, 3)))
		}
	}
}

// P5.3: no two frames have the same bytes, and no bytes are those of two.
func TestApart(t *testing.T) {
	of := map[string]frame.Frame{}
	for _, f := range frames() {
		s, _ := frame.Put(f)
		if other, there := of[s]; there && other != f {
			t.Fatalf("%s and %s: %s", tell(f), tell(other), few(s))
		}
		of[s] = f
	}
}

// within tells whether a text's bytes are some of those of another one, in memory.
func within(part, whole string) bool {
	at, from := uintptr(unsafe.Pointer(unsafe.StringData(part))), uintptr(unsafe.Pointer(unsafe.StringData(whole)))
	return part != "" && from <= at && at < from+uintptr(len(whole))
}

// Rule 5: what is handed in stays as it was, nothing of it is kept, and what is told is new memory.
func TestMemory(t *testing.T) {
	f := frame.Frame{Kind: 1, Site: 3, Seq: 7, Ack: 5, Body: strings.Repeat("body", 100)}
	was := f
	s, _ := frame.Put(f)
	again, _ := frame.Put(f)
	if f != was || within(s, again) || within(f.Body, s) {
		t.Error("what is put shares memory")
	}
	kept := []byte(s)
	handed := unsafe.String(&kept[0], len(kept))
	one, _ := frame.Get(handed)
	two, _ := frame.Get(handed)
	if string(kept) != s || within(one.Body, handed) || within(two.Body, one.Body) {
		t.Error("what is got shares memory")
	}
	clear(kept)
	if one != was || two != was {
		t.Error("what was got hangs on what was handed in")
	}
}

// Rule 6: what a call answers hangs on its arguments alone, whatever was asked between.
func TestNothingElse(t *testing.T) {
	f := frame.Frame{Kind: 1, Site: 3, Seq: 7, Ack: 5, Body: "hello"}
	s, _ := frame.Put(f)
	frame.Get("FS\x01\x80")
	frame.Put(frame.Frame{})
	frame.Get(bytesOf(frame.Frame{Kind: 2, Site: 16, Ack: 9}))
	if again, e := frame.Put(f); again != s || e != api.OK {
		t.Error(few(again), e)
	}
	if back, e := frame.Get(s); back != f || e != api.OK {
		t.Error(tell(back), e)
	}
}

// What a frame is made of is what the layers below make: their numbers, their rows, their sum.
func TestLayersBelow(t *testing.T) {
	for _, f := range frames() {
		s := "FS" + string([]byte{byte(f.Kind)}) + nums.Put(uint64(f.Site))
		if f.Kind == 1 {
			s += nums.Put(uint64(f.Seq)) + nums.Put(uint64(f.Ack)) + nums.PutText(f.Body)
		} else {
			s += nums.Put(uint64(f.Ack))
		}
		if got, e := frame.Put(f); got != s+crc.Put(crc.Sum(s)) || e != api.OK {
			t.Fatalf("%s: %s, %d", tell(f), few(got), e)
		}
	}
}
