package vect_test

import (
	"math"
	"math/big"
	"math/rand"
	"slices"
	"strings"
	"testing"

	"foolscap/api"
	"foolscap/vect"
)

// The limits, as the chapter writes them out.
const (
	maxSites = 16
	maxNum   = 1099511627776
)

// sites are those that are, and what is none on either side.
var sites = []int{math.MinInt, math.MinInt + 1, -17, -1, 0, 1, 2, 3, 9, 10, 15, 16, 17, 18, 100, math.MaxInt - 1, math.MaxInt}

// seqs are ordinary numbers, the least and the greatest ones, and those beyond.
var seqs = []int{math.MinInt, -maxNum, -1, 0, 1, 2, 3, 9, 10, 11, 99, 100, 1000000, 1 << 32, maxNum - 1, maxNum, maxNum + 1, 1 << 62, math.MaxInt - 1, math.MaxInt}

// names are all pairs of these.
var names = pairs()

func pairs() []api.Name {
	var l []api.Name
	for _, site := range sites {
		for _, seq := range seqs {
			l = append(l, api.Name{Site: site, Seq: seq})
		}
	}
	return l
}

// mayName follows the chapter's words.
func mayName(n api.Name) bool {
	return n.Site >= 1 && n.Site <= maxSites && n.Seq >= 1 && n.Seq <= maxNum
}

// decimal tells a number from 0 on, digit by digit.
func decimal(n int) string {
	if n < 10 {
		return string([]byte{byte('0' + n)})
	}
	return decimal(n/10) + decimal(n%10)
}

// textOf follows the chapter's words.
func textOf(n api.Name) string {
	if !mayName(n) {
		return ""
	}
	return decimal(n.Site) + "." + decimal(n.Seq)
}

// numberOf tells a decimal number without a nought ahead, of at most most.
func numberOf(s string, most int64) (int, bool) {
	if s == "" || s[0] == '0' {
		return 0, false
	}
	n := new(big.Int)
	for _, b := range []byte(s) {
		if b < '0' || b > '9' {
			return 0, false
		}
		n.Mul(n, big.NewInt(10)).Add(n, big.NewInt(int64(b-'0')))
	}
	if n.Cmp(big.NewInt(most)) > 0 {
		return 0, false
	}
	return int(n.Int64()), true
}

// readName follows the chapter's words.
func readName(s string) (api.Name, api.Errno) {
	parts := strings.Split(s, ".")
	if len(parts) == 2 {
		site, a := numberOf(parts[0], maxSites)
		seq, b := numberOf(parts[1], maxNum)
		if a && b {
			return api.Name{Site: site, Seq: seq}, api.OK
		}
	}
	return api.Name{}, api.ErrForm
}

// all is a vector as the chapter's words have it: each site has a count.
type all [maxSites]int

// model tells the counts of a vector, and whether it may be.
func model(v []int) (all, bool) {
	var counts all
	if len(v) > maxSites || len(v) > 0 && v[len(v)-1] == 0 {
		return all{}, false
	}
	for i, n := range v {
		if n < 0 || n > maxNum {
			return all{}, false
		}
		counts[i] = n
	}
	return counts, true
}

// list tells the vector of counts: it ends with the last one that isn't 0.
func (counts all) list() []int {
	var l []int
	for i, n := range counts {
		if n != 0 {
			l = append(l, counts[len(l):i+1]...)
		}
	}
	return l
}

func (counts all) covers(others all) bool {
	for i, n := range others {
		if counts[i] < n {
			return false
		}
	}
	return true
}

// each tells of each site what pick picks.
func each(vs []all, pick func(a, b int) int) []int {
	counts := vs[0]
	for _, v := range vs[1:] {
		for i, n := range v {
			counts[i] = pick(counts[i], n)
		}
	}
	return counts.list()
}

func atMost(a, b int) int {
	if a < b {
		return a
	}
	return b
}

func atLeast(a, b int) int {
	if a < b {
		return b
	}
	return a
}

func (counts all) raise(n api.Name) ([]int, api.Errno) {
	have := counts[n.Site-1]
	if have == maxNum {
		return nil, api.ErrEnd
	}
	if n.Seq-have != 1 {
		return nil, api.ErrOrder
	}
	counts[n.Site-1]++
	return counts.list(), api.OK
}

// wide tells a vector of so many counts, each the same, but the last one.
func wide(size, count, last int) []int {
	l := slices.Repeat([]int{count}, size)
	l[size-1] = last
	return l
}

// some are vectors of no, one, some and the most counts, of unlike lengths, with counts of 0 within.
var some = [][]int{
	nil, {}, {1}, {2}, {5}, {maxNum}, {maxNum - 1}, {0, 1}, {1, 1}, {1, 0, 3}, {0, 0, 1}, {3, 0, 1}, {2, 2, 2}, {0, maxNum}, {maxNum, 0, maxNum}, {1, 2, 3, 4, 5}, {5, 4, 3, 2, 1},
	wide(15, 0, 1), wide(15, maxNum, maxNum), wide(16, 0, 1), wide(16, 0, maxNum), wide(16, 1, 1), wide(16, 2, 1), wide(16, maxNum, maxNum), wide(16, maxNum, maxNum-1), wide(16, maxNum, 1),
	{1, 2, 3, 4, 5, 6, 7, 8, 9, 10, 11, 12, 13, 14, 15, 16}, {16, 15, 14, 13, 12, 11, 10, 9, 8, 7, 6, 5, 4, 3, 2, 1},
}

// wrong are those that may not be.
var wrong = [][]int{
	{0}, {1, 0}, {0, 0}, {1, 2, 0}, {-1}, {-1, 1}, {1, -1}, {1, -1, 1}, {math.MinInt}, {math.MinInt, 1}, {maxNum + 1}, {maxNum + 1, 1}, {1, maxNum + 1}, {math.MaxInt}, {1, math.MaxInt, 1},
	wide(16, 1, 0), wide(16, 0, 0), wide(16, 1, -1), wide(16, 1, maxNum+1), wide(16, -1, 1), wide(17, 1, 1), wide(17, 0, 1), wide(17, 1, 0), wide(17, 0, 0), wide(18, 1, 1), wide(400, 1, 1), wide(400, 0, 0),
}

// small are all of up to three counts, such as may not be too.
func small() [][]int {
	l := [][]int{nil}
	for from := 0; len(l[from]) < 3; from++ {
		for _, n := range []int{-1, 0, 1, 2, maxNum, maxNum + 1} {
			l = append(l, append(slices.Clone(l[from]), n))
		}
	}
	return l
}

// random tells a vector that may be, now and then one that may not.
func random(r *rand.Rand) []int {
	v := make([]int, r.Intn(maxSites+2))
	for i := range v {
		v[i] = r.Intn(3)
		if r.Intn(40) == 0 {
			v[i] = maxNum - 1 + r.Intn(3)
		}
	}
	for len(v) > 0 && v[len(v)-1] == 0 && r.Intn(9) > 0 {
		v = v[:len(v)-1]
	}
	return v
}

// The chapter's examples.
func TestExamples(t *testing.T) {
	if s := vect.NameText(api.Name{Site: 2, Seq: 10}); s != "2.10" {
		t.Errorf("%q", s)
	}
	if v, e := vect.Raise([]int{1, 0, 3}, api.Name{Site: 2, Seq: 1}); !slices.Equal(v, []int{1, 1, 3}) || e != api.OK {
		t.Error(v, e)
	}
	if o := vect.Order([]int{1}, []int{0, 1}); o != 3 {
		t.Error(o)
	}
	if n, e := vect.ReadName("02.1"); n != (api.Name{}) || e != api.ErrForm {
		t.Error(n, e)
	}
}

// P6.1: names of each site, with the least and the greatest number, and those one beyond.
func TestMayName(t *testing.T) {
	for site := -1; site <= maxSites+2; site++ {
		for _, seq := range seqs {
			want := 1 <= site && site <= 16 && 1 <= seq && seq <= 1<<40
			if got := vect.MayName(api.Name{Site: site, Seq: seq}); got != want {
				t.Errorf("%d, %d: %v", site, seq, got)
			}
		}
	}
	for _, n := range names {
		if got := vect.MayName(n); got != mayName(n) {
			t.Errorf("%d: %v", n, got)
		}
	}
}

// P6.1: of any two, such as may not be too.
func TestNameLess(t *testing.T) {
	for _, x := range []struct {
		a, b api.Name
		less bool
	}{
		{api.Name{Site: 1, Seq: 9}, api.Name{Site: 2, Seq: 1}, true}, {api.Name{Site: 2, Seq: 1}, api.Name{Site: 1, Seq: 9}, false},
		{api.Name{Site: 2, Seq: 9}, api.Name{Site: 2, Seq: 10}, true}, {api.Name{Site: 2, Seq: 10}, api.Name{Site: 2, Seq: 9}, false},
		{api.Name{Site: 2, Seq: 9}, api.Name{Site: 10, Seq: 9}, true}, {api.Name{Site: 3, Seq: 3}, api.Name{Site: 3, Seq: 3}, false},
		{api.Name{}, api.Name{}, false}, {api.Name{Site: -1, Seq: 9}, api.Name{}, true}, {api.Name{Site: 17, Seq: -5}, api.Name{Site: 17, Seq: -4}, true},
		{api.Name{Site: math.MinInt, Seq: math.MaxInt}, api.Name{Site: math.MaxInt, Seq: math.MinInt}, true},
		{api.Name{Site: 1, Seq: math.MaxInt}, api.Name{Site: 1, Seq: math.MinInt}, false},
	} {
		if got := vect.NameLess(x.a, x.b); got != x.less {
			t.Errorf("%d, %d: %v", x.a, x.b, got)
		}
	}
	for i, a := range names { // they stand in their order
		for j, b := range names {
			if got := vect.NameLess(a, b); got != (i < j) {
				t.Fatalf("%d, %d: %v", a, b, got)
			}
		}
	}
}

// P6.1
func TestNameText(t *testing.T) {
	for _, x := range []struct {
		n api.Name
		s string
	}{
		{api.Name{Site: 1, Seq: 1}, "1.1"}, {api.Name{Site: 9, Seq: 9}, "9.9"}, {api.Name{Site: 10, Seq: 10}, "10.10"}, {api.Name{Site: 16, Seq: 1 << 40}, "16.1099511627776"}, {api.Name{Site: 3, Seq: 1002003}, "3.1002003"},
		{api.Name{}, ""}, {api.Name{Site: 1}, ""}, {api.Name{Seq: 1}, ""}, {api.Name{Site: 17, Seq: 1}, ""}, {api.Name{Site: 1, Seq: 1<<40 + 1}, ""}, {api.Name{Site: -1, Seq: 1}, ""}, {api.Name{Site: 1, Seq: -1}, ""},
	} {
		if s := vect.NameText(x.n); s != x.s {
			t.Errorf("%d: %q, not %q", x.n, s, x.s)
		}
	}
	for _, n := range names {
		if s := vect.NameText(n); s != textOf(n) {
			t.Errorf("%d: %q", n, s)
		}
	}
}

// reads checks ReadName against the model.
func reads(t *testing.T, s string) {
	t.Helper()
	want, e := readName(s)
	if got, err := vect.ReadName(s); got != want || err != e {
		t.Errorf("ReadName(%.60q): %d, %d, not %d, %d", s, got, err, want, e)
	}
}

// P6.1: what is no name's text.
func TestReadNoName(t *testing.T) {
	long := strings.Repeat("9", 400)
	for _, s := range []string{
		"", ".", "..", "1", "1.", ".1", "1.1.", ".1.1", "1..1", "1.1.1", "1,1", "1 1", "11", // no full stop, two, nothing on one side
		"01.1", "1.01", "00.1", "1.00", "010.1", "016.1", "1.0001", // noughts ahead
		"+1.1", "1.+1", "-1.1", "1.-1", "+1.+1", "-1.-1", "--1.1", "1.-0", "+.1", "1.-", // signs
		"0.1", "1.0", "0.0", "17.1", "18.1", "20.1", "99.1", "100.1", "1.1099511627777", "1.1099511627780", "1.2000000000000", "1.9999999999999", "1.10000000000000", // beyond the limits
		"1.9223372036854775807", "1.9223372036854775808", "1.18446744073709551615", "1.18446744073709551616", "1.18446744073709551617", "18446744073709551617.1", "4294967297.1", "1.-9223372036854775809", long + ".1", "1." + long, // beyond an int
		" 1.1", "1.1 ", "1 .1", "1. 1", "1.1\n", "\n1.1", "1.1\x00", "\x001.1", "1_0.1", "1.1_0", "0x1.1", "1.0x1", "1.1e3", "1e0.1", "a.b", "1.a", "a.1", "\u0661.1", "1.\uff11", "1\u30021", "\xff.1", "1.\xff", "1.1\xff",
		strings.Repeat("1.", 400), strings.Repeat(".", 400), strings.Repeat("0", 400) + "1.1", "1." + strings.Repeat("0", 400) + "1",
	} {
		if n, e := vect.ReadName(s); n != (api.Name{}) || e != api.ErrForm {
			t.Errorf("%.60q: %d, %d", s, n, e)
		}
		reads(t, s)
	}
}

// P6.1: each name's text, and whatever is unlike it by one byte that is another one, missing, or too much.
func TestReadName(t *testing.T) {
	for _, n := range names {
		if !mayName(n) {
			continue
		}
		s := textOf(n)
		if got, e := vect.ReadName(s); got != n || e != api.OK {
			t.Errorf("%q: %d, %d", s, got, e)
		}
		for i := range len(s) + 1 {
			for _, b := range "0123456789.+-_ x\n" {
				reads(t, s[:i]+string(b)+s[i:])
				if i < len(s) {
					reads(t, s[:i]+string(b)+s[i+1:])
				}
			}
			if i < len(s) {
				reads(t, s[:i]+s[i+1:])
				reads(t, s[:i])
				reads(t, s[i:])
			}
		}
	}
}

// P6.1: all texts of up to six bytes of those that tell names apart from others.
func TestReadEachText(t *testing.T) {
	var grow func(s string)
	grow = func(s string) {
		reads(t, s)
		if len(s) == 6 || t.Failed() {
			return
		}
		for _, b := range "0126.+-9" {
			grow(s + string(b))
		}
	}
	grow("")
}

// asks checks what is told of one vector against the model.
func asks(t *testing.T, v []int) {
	t.Helper()
	counts, may := model(v)
	if got := vect.May(v); got != may {
		t.Errorf("May(%d): %v", v, got)
	}
	for _, site := range append(slices.Clone(sites), len(v)-1, len(v), len(v)+1) {
		want := 0
		if 1 <= site && site <= maxSites {
			want = counts[site-1]
		}
		if got := vect.Count(v, site); got != want {
			t.Errorf("Count(%d, %d): %d, not %d", v, site, got, want)
		}
		for _, seq := range []int{math.MinInt, -1, 0, 1, want - 1, want, want + 1, maxNum, maxNum + 1, math.MaxInt} {
			n := api.Name{Site: site, Seq: seq}
			has := may && mayName(n) && seq <= want
			if got := vect.Has(v, n); got != has {
				t.Errorf("Has(%d, %d): %v", v, n, got)
			}
		}
	}
}

// P6.2
func TestMay(t *testing.T) {
	for _, v := range some {
		if !vect.May(v) {
			t.Errorf("%d may not be", v)
		}
	}
	for _, v := range wrong {
		if vect.May(v) {
			t.Errorf("%d may be", v)
		}
	}
	// One that may be, with one count that may not, at each place.
	for size := 1; size <= maxSites; size++ {
		for i := range size {
			for _, n := range []int{math.MinInt, -1, 0, 1, maxNum, maxNum + 1, math.MaxInt} {
				v := wide(size, 1, 1)
				v[i] = n
				want := 0 < n && n <= maxNum || n == 0 && i < size-1
				if got := vect.May(v); got != want {
					t.Errorf("%d: %v", v, got)
				}
			}
		}
	}
}

// P6.2: a site of 0, below it, at the list's end, behind it; a name of no vector and a vector without the name.
func TestCountAndHas(t *testing.T) {
	v := []int{4, 0, 2}
	for _, x := range []struct{ site, count int }{{1, 4}, {2, 0}, {3, 2}, {4, 0}, {16, 0}, {17, 0}, {0, 0}, {-1, 0}, {math.MinInt, 0}, {math.MaxInt, 0}} {
		if got := vect.Count(v, x.site); got != x.count {
			t.Errorf("Count of %d: %d, not %d", x.site, got, x.count)
		}
	}
	for _, x := range []struct {
		n   api.Name
		has bool
	}{
		{api.Name{Site: 1, Seq: 1}, true}, {api.Name{Site: 1, Seq: 4}, true}, {api.Name{Site: 1, Seq: 5}, false}, {api.Name{Site: 2, Seq: 1}, false}, {api.Name{Site: 3, Seq: 2}, true}, {api.Name{Site: 3, Seq: 3}, false}, {api.Name{Site: 4, Seq: 1}, false},
		{api.Name{Site: 1, Seq: 0}, false}, {api.Name{Site: 1, Seq: -1}, false}, {api.Name{Site: 2, Seq: 0}, false}, {api.Name{Site: 0, Seq: 1}, false}, {api.Name{Site: -1, Seq: 1}, false}, {api.Name{Site: 17, Seq: 0}, false}, {api.Name{}, false},
	} {
		if got := vect.Has(v, x.n); got != x.has {
			t.Errorf("Has of %d: %v", x.n, got)
		}
	}
	for _, v := range slices.Concat(some, wrong, small()) {
		asks(t, v)
	}
}

// two checks what is told of two vectors against the model, and, where they may be, P6.4 by the answers themselves.
func two(t *testing.T, a, b []int) {
	t.Helper()
	x, mayA := model(a)
	y, mayB := model(b)
	may := mayA && mayB
	covers, order := may && x.covers(y), -1
	switch {
	case !may:
	case x == y:
		order = 0
	case covers:
		order = 1
	case y.covers(x):
		order = 2
	default:
		order = 3
	}
	if got := vect.Covers(a, b); got != covers {
		t.Errorf("Covers(%d, %d): %v", a, b, got)
	}
	if got := vect.Order(a, b); got != order {
		t.Errorf("Order(%d, %d): %d, not %d", a, b, got, order)
	}
	most, e := vect.Merge(a, b)
	least, f := vect.Least(a, b)
	if !may {
		if len(most) != 0 || e != api.ErrArg || len(least) != 0 || f != api.ErrArg {
			t.Errorf("Merge and Least(%d, %d): %d, %d; %d, %d", a, b, most, e, least, f)
		}
		return
	}
	if !slices.Equal(most, each([]all{x, y}, atLeast)) || e != api.OK {
		t.Errorf("Merge(%d, %d): %d, %d", a, b, most, e)
	}
	if !slices.Equal(least, each([]all{x, y}, atMost)) || f != api.OK {
		t.Errorf("Least(%d, %d): %d, %d", a, b, least, f)
	}
	between(t, a, b, most, least)
}

// between checks that a merged vector covers both, and that both cover the least.
func between(t *testing.T, a, b, most, least []int) {
	t.Helper()
	for _, v := range [][]int{a, b} {
		if !vect.Covers(most, v) || !vect.Covers(v, least) || !vect.Covers(v, v) || vect.Order(v, v) != 0 {
			t.Errorf("%d of %d and %d: merged %d, least %d", v, a, b, most, least)
		}
	}
	if !vect.May(most) || !vect.May(least) {
		t.Errorf("of %d and %d: merged %d, least %d", a, b, most, least)
	}
}

// P6.2, P6.3: as they are written out.
func TestTwoVectors(t *testing.T) {
	for _, x := range []struct {
		a, b, most, least []int
		order             int
	}{
		{nil, nil, nil, nil, 0}, {nil, []int{}, nil, nil, 0}, {[]int{1}, nil, []int{1}, nil, 1}, {nil, []int{0, 1}, []int{0, 1}, nil, 2},
		{[]int{1, 2}, []int{1, 2}, []int{1, 2}, []int{1, 2}, 0}, {[]int{1, 2}, []int{1, 1}, []int{1, 2}, []int{1, 1}, 1}, {[]int{1, 2}, []int{1, 3}, []int{1, 3}, []int{1, 2}, 2}, {[]int{1, 2}, []int{2, 1}, []int{2, 2}, []int{1, 1}, 3},
		{[]int{1}, []int{0, 1}, []int{1, 1}, nil, 3}, {[]int{5, 0, 1}, []int{3, 2}, []int{5, 2, 1}, []int{3}, 3}, {[]int{1, 0, 7}, []int{1}, []int{1, 0, 7}, []int{1}, 1}, {[]int{0, 0, 7}, []int{0, 4, 9, 2}, []int{0, 4, 9, 2}, []int{0, 0, 7}, 2},
		{[]int{0, 3}, []int{3, 0, 1}, []int{3, 3, 1}, nil, 3}, {[]int{maxNum}, []int{maxNum, 1}, []int{maxNum, 1}, []int{maxNum}, 2}, {wide(16, 0, 1), wide(15, 0, 1), append(wide(15, 0, 1), 1), nil, 3},
		{wide(16, 3, 1), wide(16, 2, 2), wide(16, 3, 2), wide(16, 2, 1), 3},
	} {
		if o := vect.Order(x.a, x.b); o != x.order {
			t.Errorf("Order(%d, %d): %d, not %d", x.a, x.b, o, x.order)
		}
		if got, want := vect.Covers(x.a, x.b), x.order == 0 || x.order == 1; got != want {
			t.Errorf("Covers(%d, %d): %v", x.a, x.b, got)
		}
		if v, e := vect.Merge(x.a, x.b); !slices.Equal(v, x.most) || e != api.OK {
			t.Errorf("Merge(%d, %d): %d, %d", x.a, x.b, v, e)
		}
		if v, e := vect.Least(x.a, x.b); !slices.Equal(v, x.least) || e != api.OK {
			t.Errorf("Least(%d, %d): %d, %d", x.a, x.b, v, e)
		}
	}
}

// P6.2, P6.3, P6.4: each two of these, such as may not be too.
func TestEachTwo(t *testing.T) {
	for _, l := range [][][]int{slices.Concat(some, wrong), small()} {
		for _, a := range l {
			for _, b := range l {
				two(t, a, b)
			}
			if t.Failed() {
				return
			}
		}
	}
}

// P6.2, P6.3, P6.4: and of many, three at once.
func TestMany(t *testing.T) {
	r := rand.New(rand.NewSource(6))
	for range 20000 {
		a, b, c := random(r), random(r), random(r)
		asks(t, a)
		two(t, a, b)
		most, e := vect.Merge(a, b)
		if e == api.OK && vect.Covers(c, a) && vect.Covers(c, b) != vect.Covers(c, most) {
			t.Errorf("%d covers %d and %d, not %d", c, a, b, most)
		}
		least, f := vect.Least(a, b)
		if f == api.OK && vect.Covers(a, c) && vect.Covers(b, c) != vect.Covers(least, c) {
			t.Errorf("%d is covered by %d and %d, not by %d", c, a, b, least)
		}
		if t.Failed() {
			return
		}
	}
}

// P6.4: of all small ones: what covers both covers what is merged, and none else does; what both cover the least covers, and none else.
func TestBetween(t *testing.T) {
	var l [][]int
	for i := range 27 {
		l = append(l, all{i % 3, i / 3 % 3, i / 9}.list())
	}
	for _, a := range l {
		for _, b := range l {
			most, e := vect.Merge(a, b)
			least, f := vect.Least(a, b)
			if e != api.OK || f != api.OK {
				t.Fatal(a, b, e, f)
			}
			for _, c := range l {
				if vect.Covers(c, most) != (vect.Covers(c, a) && vect.Covers(c, b)) {
					t.Errorf("%d, of %d merged of %d and %d", c, most, a, b)
				}
				if vect.Covers(least, c) != (vect.Covers(a, c) && vect.Covers(b, c)) {
					t.Errorf("%d, of %d the least of %d and %d", c, least, a, b)
				}
			}
		}
	}
}

// P6.3: of none, of one, and of more than two.
func TestLeast(t *testing.T) {
	for _, vs := range [][][]int{nil, {}} {
		if v, e := vect.Least(vs...); len(v) != 0 || e != api.ErrArg {
			t.Errorf("Least(): %d, %d", v, e)
		}
	}
	for _, v := range some {
		if got, e := vect.Least(v); !slices.Equal(got, v) || e != api.OK {
			t.Errorf("Least(%d): %d, %d", v, got, e)
		}
	}
	for _, v := range wrong {
		for _, vs := range [][][]int{{v}, {v, {1}}, {{1}, v}, {nil, v}, {v, v}, {{1}, {2}, v}, {v, {1}, {2}}, {{1}, v, {2}}} {
			if got, e := vect.Least(vs...); len(got) != 0 || e != api.ErrArg {
				t.Errorf("Least(%d): %d, %d", vs, got, e)
			}
		}
	}
	for _, x := range []struct {
		vs    [][]int
		least []int
	}{
		{[][]int{{3, 2, 1}, {1, 2, 3}, {2, 2, 2}}, []int{1, 2, 1}}, {[][]int{{3, 2, 1}, {1, 2, 3}, {2}}, []int{1}}, {[][]int{{3}, {1, 2, 3}, {2, 5, 1}}, []int{1}}, {[][]int{{1}, {0, 1}, {1, 1}}, nil},
		{[][]int{{1, 1}, {1, 1}, nil}, nil}, {[][]int{nil, {1, 1}, {1, 1}}, nil}, {[][]int{{4, 0, 4}, {4, 4, 4}, {5, 0, 3}, {5, 1, 5}}, []int{4, 0, 3}},
	} {
		if got, e := vect.Least(x.vs...); !slices.Equal(got, x.least) || e != api.OK {
			t.Errorf("Least(%d): %d, %d", x.vs, got, e)
		}
	}
	many := slices.Repeat([][]int{wide(16, 9, 9)}, 1000)
	many[999] = wide(16, 9, 8)
	if got, e := vect.Least(many...); !slices.Equal(got, wide(16, 9, 8)) || e != api.OK {
		t.Error(got, e)
	}
}

// P6.3, P6.4: of one and of many the least is covered by each.
func TestLeastOfMany(t *testing.T) {
	r := rand.New(rand.NewSource(66))
	for range 5000 {
		var vs [][]int
		var counts []all
		may := true
		for range 1 + r.Intn(5) {
			v := random(r)
			x, ok := model(v)
			vs, counts, may = append(vs, v), append(counts, x), may && ok
		}
		got, e := vect.Least(vs...)
		if !may {
			if len(got) != 0 || e != api.ErrArg {
				t.Fatalf("Least(%d): %d, %d", vs, got, e)
			}
			continue
		}
		if e != api.OK || !slices.Equal(got, each(counts, atMost)) {
			t.Fatalf("Least(%d): %d, %d", vs, got, e)
		}
		for _, v := range vs {
			if !vect.Covers(v, got) {
				t.Fatalf("Least(%d): %d", vs, got)
			}
		}
	}
}

// raises checks Raise against the model, and P6.4 by the answer itself.
func raises(t *testing.T, v []int, n api.Name) {
	t.Helper()
	counts, may := model(v)
	var want []int
	e := api.ErrArg
	if may && mayName(n) {
		want, e = counts.raise(n)
	}
	got, err := vect.Raise(v, n)
	if !slices.Equal(got, want) || err != e {
		t.Errorf("Raise(%d, %d): %d, %d, not %d, %d", v, n, got, err, want, e)
	}
	if err != api.OK {
		return
	}
	if !vect.May(got) || !vect.Has(got, n) || vect.Has(v, n) || vect.Order(got, v) != 1 {
		t.Errorf("Raise(%d, %d): %d", v, n, got)
	}
	for site := 1; site <= maxSites; site++ {
		more := 0
		if site == n.Site {
			more = 1
		}
		if vect.Count(got, site) != vect.Count(v, site)+more {
			t.Errorf("Raise(%d, %d): %d", v, n, got)
		}
	}
}

// P6.3, P6.4: at each site the number that follows, those beside it, and others.
func TestRaise(t *testing.T) {
	for _, v := range slices.Concat(some, wrong, small()) {
		for site := -1; site <= maxSites+2; site++ {
			count := vect.Count(v, site)
			for _, seq := range append([]int{count - 1, count, count + 1, count + 2}, seqs...) {
				raises(t, v, api.Name{Site: site, Seq: seq})
			}
		}
		if t.Failed() {
			return
		}
	}
	for _, n := range names {
		raises(t, []int{1, 0, 9}, n)
	}
}

// P6.3: where several apply, the first one.
func TestRaiseErrors(t *testing.T) {
	full := []int{0, maxNum, 1}
	for _, x := range []struct {
		v []int
		n api.Name
		e api.Errno
	}{
		{[]int{0}, api.Name{Site: 1, Seq: 1}, api.ErrArg}, {[]int{maxNum, 0}, api.Name{Site: 1, Seq: 5}, api.ErrArg}, {[]int{maxNum + 1}, api.Name{Site: 1, Seq: 5}, api.ErrArg}, {[]int{0}, api.Name{}, api.ErrArg}, {[]int{-1, 1}, api.Name{Site: 1, Seq: 0}, api.ErrArg}, {wide(17, 1, 1), api.Name{Site: 17, Seq: 2}, api.ErrArg},
		{nil, api.Name{}, api.ErrArg}, {nil, api.Name{Site: 17, Seq: 1}, api.ErrArg}, {nil, api.Name{Site: 0, Seq: 1}, api.ErrArg}, {nil, api.Name{Site: 1, Seq: 0}, api.ErrArg}, {full, api.Name{Site: 2, Seq: maxNum + 1}, api.ErrArg}, {full, api.Name{Site: 2, Seq: 0}, api.ErrArg}, {full, api.Name{Site: 17, Seq: 9}, api.ErrArg}, {wide(16, 1, 1), api.Name{Site: 17, Seq: 1}, api.ErrArg},
		{full, api.Name{Site: 2, Seq: maxNum}, api.ErrEnd}, {full, api.Name{Site: 2, Seq: 1}, api.ErrEnd}, {full, api.Name{Site: 2, Seq: maxNum - 1}, api.ErrEnd}, {wide(16, 1, maxNum), api.Name{Site: 16, Seq: 7}, api.ErrEnd},
		{nil, api.Name{Site: 1, Seq: 2}, api.ErrOrder}, {full, api.Name{Site: 1, Seq: 2}, api.ErrOrder}, {full, api.Name{Site: 3, Seq: 1}, api.ErrOrder}, {full, api.Name{Site: 3, Seq: 3}, api.ErrOrder}, {full, api.Name{Site: 16, Seq: maxNum}, api.ErrOrder}, {[]int{maxNum - 1}, api.Name{Site: 1, Seq: maxNum - 1}, api.ErrOrder},
	} {
		if v, e := vect.Raise(x.v, x.n); len(v) != 0 || e != x.e {
			t.Errorf("Raise(%d, %d): %d, %d, not %d", x.v, x.n, v, e, x.e)
		}
	}
	for _, x := range []struct {
		v    []int
		n    api.Name
		want []int
	}{
		{nil, api.Name{Site: 1, Seq: 1}, []int{1}}, {nil, api.Name{Site: 3, Seq: 1}, []int{0, 0, 1}}, {nil, api.Name{Site: 16, Seq: 1}, wide(16, 0, 1)}, {[]int{4}, api.Name{Site: 1, Seq: 5}, []int{5}}, {[]int{4}, api.Name{Site: 2, Seq: 1}, []int{4, 1}},
		{[]int{maxNum - 1}, api.Name{Site: 1, Seq: maxNum}, []int{maxNum}}, {full, api.Name{Site: 1, Seq: 1}, []int{1, maxNum, 1}}, {full, api.Name{Site: 3, Seq: 2}, []int{0, maxNum, 2}}, {wide(16, 1, 1), api.Name{Site: 16, Seq: 2}, wide(16, 1, 2)},
	} {
		if v, e := vect.Raise(x.v, x.n); !slices.Equal(v, x.want) || e != api.OK {
			t.Errorf("Raise(%d, %d): %d, %d", x.v, x.n, v, e)
		}
	}
}

// kept checks that a call that is handed vectors with room to spare neither changes nor keeps any of them, and answers new memory each time.
func kept(t *testing.T, what string, vs [][]int, call func(vs [][]int) ([]int, api.Errno)) {
	t.Helper()
	const spare = -77
	var given, wholes [][]int
	for _, v := range vs {
		whole := append(slices.Clone(v), slices.Repeat([]int{spare}, 20)...)
		wholes = append(wholes, whole)
		given = append(given, whole[:len(v)])
	}
	one, e := call(given)
	two, f := call(given)
	if e != f || !slices.Equal(one, two) {
		t.Errorf("%s of %d: %d, %d, then %d, %d", what, vs, one, e, two, f)
	}
	for i, v := range vs {
		if len(given[i]) != len(v) || len(v) > 0 && &given[i][0] != &wholes[i][0] || !slices.Equal(wholes[i][:len(v)], v) || slices.ContainsFunc(wholes[i][len(v):], func(n int) bool { return n != spare }) {
			t.Errorf("%s of %d: left %d", what, vs, wholes[i])
		}
	}
	want := slices.Clone(two)
	scrawl(one[:cap(one)])
	for i, v := range vs {
		if !slices.Equal(wholes[i][:len(v)], v) || slices.ContainsFunc(wholes[i][len(v):], func(n int) bool { return n != spare }) {
			t.Errorf("%s of %d: the answer is a piece of %d", what, vs, wholes[i])
		}
		scrawl(wholes[i])
	}
	if !slices.Equal(two, want) {
		t.Errorf("%s of %d: the answer went with another one, or with what was handed in", what, vs)
	}
}

// scrawl writes over all numbers.
func scrawl(l []int) {
	for i := range l {
		l[i] = -99
	}
}

// Rule 5: Raise, Merge and Least change nothing of what they are given, and share nothing with it.
func TestMemory(t *testing.T) {
	l := slices.Concat(some, [][]int{{0}, {-1, 1}, wide(17, 1, 1)})
	for _, a := range l {
		for site := 1; site <= maxSites; site++ {
			n := api.Name{Site: site, Seq: vect.Count(a, site) + 1}
			kept(t, "Raise", [][]int{a}, func(vs [][]int) ([]int, api.Errno) { return vect.Raise(vs[0], n) })
		}
		kept(t, "Least", [][]int{a}, func(vs [][]int) ([]int, api.Errno) { return vect.Least(vs...) })
		for _, b := range l {
			kept(t, "Merge", [][]int{a, b}, func(vs [][]int) ([]int, api.Errno) { return vect.Merge(vs[0], vs[1]) })
			kept(t, "Least", [][]int{a, b}, func(vs [][]int) ([]int, api.Errno) { return vect.Least(vs...) })
			kept(t, "Least", [][]int{a, b, a}, func(vs [][]int) ([]int, api.Errno) { return vect.Least(vs...) })
		}
	}
	v := []int{1, 0, 2}
	for range 2 { // one vector twice, which is one memory
		most, _ := vect.Merge(v, v)
		least, _ := vect.Least(v, v, v)
		scrawl(most)
		scrawl(least)
	}
	if !slices.Equal(v, []int{1, 0, 2}) {
		t.Error(v)
	}
}

// Rules 3 and 4: nil and empty are the same, and beside an error nothing is told.
func TestNilIsEmpty(t *testing.T) {
	for _, v := range some {
		a, e := vect.Merge(nil, v)
		b, f := vect.Merge([]int{}, v)
		if !slices.Equal(a, b) || e != f || vect.Order(nil, v) != vect.Order([]int{}, v) || vect.Covers(v, nil) != vect.Covers(v, []int{}) {
			t.Errorf("%d: %d, %d; %d, %d", v, a, e, b, f)
		}
	}
	for _, v := range [][]int{nil, {}} {
		got, e := vect.Raise(v, api.Name{Site: 2, Seq: 1})
		if !vect.May(v) || vect.Count(v, 1) != 0 || vect.Has(v, api.Name{Site: 1, Seq: 1}) || !slices.Equal(got, []int{0, 1}) || e != api.OK {
			t.Error(got, e)
		}
	}
}
