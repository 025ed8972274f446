package spans_test

import (
	"math"
	"math/big"
	"math/rand"
	"slices"
	"testing"

	"foolscap/api"
	"foolscap/spans"
)

// maxCells is the limit, as the chapter writes it out: the places are 0 to 19,999.
const maxCells = 20000

// list makes spans of pairs of numbers.
func list(numbers ...int) []api.Span {
	var l []api.Span
	for i := 0; i < len(numbers); i += 2 {
		l = append(l, api.Span{From: numbers[i], Len: numbers[i+1]})
	}
	return l
}

// mayBe follows the chapter's words.
func mayBe(l []api.Span) bool {
	for i, s := range l {
		if s.Len < 1 || s.From < 0 || s.From >= maxCells || s.Len > maxCells-s.From {
			return false
		}
		if i > 0 && s.From <= l[i-1].From+l[i-1].Len {
			return false
		}
	}
	return true
}

// set is a set of places as bits; of a list that may not be nil.
func set(l []api.Span) *big.Int {
	if !mayBe(l) {
		return nil
	}
	return places(l)
}

// places are those of spans in any order.
func places(l []api.Span) *big.Int {
	x := new(big.Int)
	for _, s := range l {
		run := new(big.Int).Lsh(big.NewInt(1), uint(s.Len))
		run.Sub(run, big.NewInt(1))
		x.Or(x, run.Lsh(run, uint(s.From)))
	}
	return x
}

// listOf is the one list that a set has.
func listOf(x *big.Int) []api.Span {
	var l []api.Span
	if x == nil || x.Sign() == 0 {
		return l
	}
	run := 0
	for i := int(x.TrailingZeroBits()); i <= x.BitLen(); i++ {
		if x.Bit(i) == 1 {
			run++
		} else if run > 0 {
			l = append(l, api.Span{From: i - run, Len: run})
			run = 0
		}
	}
	return l
}

// cut tells the bits of a set below a point, and the others, as they stand above it.
func cut(x *big.Int, at int) (*big.Int, *big.Int) {
	high := new(big.Int).Rsh(x, uint(at))
	low := new(big.Int).Lsh(high, uint(at))
	return low.Xor(low, x), high
}

// modelOpen follows the chapter's words.
func modelOpen(l []api.Span, at, n int) ([]api.Span, api.Errno) {
	x := set(l)
	if x == nil || at < 0 || at > maxCells || n < 0 {
		return nil, api.ErrArg
	}
	low, high := cut(x, at)
	if high.Sign() == 0 {
		return l, api.OK
	}
	if n > maxCells || at+high.BitLen()-1+n > maxCells-1 {
		return nil, api.ErrFull
	}
	return listOf(low.Or(low, high.Lsh(high, uint(at+n)))), api.OK
}

// modelShut follows the chapter's words.
func modelShut(l []api.Span, at, n int) ([]api.Span, bool) {
	x := set(l)
	if x == nil || at < 0 || at > maxCells || n < 0 {
		return nil, false
	}
	low, high := cut(x, at)
	if high.Sign() == 0 {
		return l, true
	}
	if n > int(high.TrailingZeroBits()) {
		return nil, false
	}
	return listOf(low.Or(low, high.Lsh(high.Rsh(high, uint(n)), uint(at)))), true
}

// every is the list of each other place, from one on.
func every(from int) []api.Span {
	var l []api.Span
	for p := from; p < maxCells; p += 2 {
		l = append(l, api.Span{From: p, Len: 1})
	}
	return l
}

// some are lists of no, one, two and many spans, at the least and the greatest places too.
var some = [][]api.Span{
	nil, {}, list(0, 1), list(0, 5), list(1, 1), list(2, 4), list(7, 3), list(19999, 1), list(19998, 1), list(19990, 10), list(19990, 9), list(0, 20000), list(0, 19999), list(1, 19999), list(1, 19998),
	list(0, 1, 2, 1), list(0, 1, 19999, 1), list(0, 9999, 10000, 10000), list(2, 1, 6, 3), list(3, 2, 6, 1), list(5, 5, 11, 5), list(19997, 1, 19999, 1), list(19000, 10, 19990, 9),
	list(0, 2, 3, 1, 5, 4), list(1, 2, 4, 2, 7, 2, 10, 2), list(1, 1, 3, 1, 5, 1, 7, 1, 9, 1), list(0, 3, 100, 200, 5000, 1, 19998, 2), list(8, 2, 11, 1, 13, 7, 30, 1, 32, 2),
}

// wrong are lists that may not be.
var wrong = [][]api.Span{
	list(0, 0), list(5, 0), list(20000, 0), list(5, -1), list(0, -5), list(-1, 1), list(-1, 5), list(-5, 1), list(20000, 1), list(20001, 1), list(20001, 0), list(19999, 2), list(0, 20001), list(1, 20000), list(10000, 10001),
	list(0, 1, 1, 1), list(0, 5, 5, 1), list(0, 5, 4, 3), list(0, 5, 1, 2), list(3, 2, 3, 2), list(3, 2, 0, 1), list(5, 1, 1, 1), list(5, 1, 3, 1), list(0, 1, 3, 0), list(0, 0, 3, 1), list(2, 1, 4, -1), list(2, -1, 4, 1), list(4, -2, 5, 1),
	list(0, 1, 2, 1, 3, 1), list(0, 1, 2, 1, 2, 1), list(0, 1, 2, 1, 1, 1), list(0, 1, 2, 1, 19999, 2), list(-2, 1, 0, 1), list(19999, 1, 20000, 1), list(19998, 1, 20000, 1),
	list(math.MaxInt, 1), list(math.MinInt, 1), list(1, math.MaxInt), list(1, math.MinInt), list(math.MaxInt, math.MaxInt), list(math.MinInt, math.MinInt), list(math.MinInt, math.MaxInt), list(math.MaxInt, math.MinInt), list(-1, math.MinInt), list(19999, math.MaxInt), list(0, math.MinInt), list(0, math.MaxInt),
	list(5, math.MaxInt, 7, 1), list(5, math.MinInt, 7, 1), list(5, math.MaxInt, 30, math.MinInt), list(0, 1, math.MaxInt, 2), list(0, 1, math.MinInt, 2), list(0, 1, 3, math.MaxInt), list(math.MaxInt-1, 1), list(-1, 2), list(-1, math.MaxInt),
}

// anyLists are all of up to so many spans, such as may not be too, with places from one on and behind it.
func anyLists(most, base int) [][]api.Span {
	all := [][]api.Span{nil}
	for from := 0; from < len(all) && len(all[from]) < most; from++ {
		for p := base - 1; p < base+6; p++ {
			for n := -1; n < 4; n++ {
				all = append(all, append(slices.Clone(all[from]), api.Span{From: p, Len: n}))
			}
		}
	}
	return all
}

// windows are the lists of all sets of n places from base on.
func windows(n, base int) [][]api.Span {
	var all [][]api.Span
	for bits := range 1 << n {
		x := big.NewInt(int64(bits))
		all = append(all, listOf(x.Lsh(x, uint(base))))
	}
	return all
}

// random tells a list that may be, with places up to most.
func random(r *rand.Rand, most int) []api.Span {
	var l []api.Span
	step := 1 + r.Intn(1+most/10)
	for p := r.Intn(step); p < most; {
		n := min(1+r.Intn(step), most-p)
		l = append(l, api.Span{From: p, Len: n})
		p += n + 1 + r.Intn(step)
	}
	return l
}

// The chapter's examples.
func TestExamples(t *testing.T) {
	if l, e := spans.Norm(list(5, 2, 1, 3, 4, 1)); !slices.Equal(l, list(1, 6)) || e != api.OK {
		t.Error(l, e)
	}
	l, e := spans.Open(list(2, 4), 3, 3)
	if !slices.Equal(l, list(2, 1, 6, 3)) || e != api.OK {
		t.Error(l, e)
	}
	if l, ok := spans.Shut(l, 3, 3); !slices.Equal(l, list(2, 4)) || !ok {
		t.Error(l, ok)
	}
	if l, e := spans.Less(list(0, 5), list(1, 2)); !slices.Equal(l, list(0, 1, 3, 2)) || e != api.OK {
		t.Error(l, e)
	}
}

// P7.1
func TestMay(t *testing.T) {
	for _, l := range slices.Concat(some, [][]api.Span{every(0), every(1)}) {
		if !spans.May(l) {
			t.Errorf("%d may not be", l)
		}
	}
	for _, l := range slices.Concat(wrong, [][]api.Span{append(every(0), list(20000, 1)...), append(every(1), list(20001, 1)...), append(every(0), every(0)...)}) {
		if spans.May(l) {
			t.Errorf("%d may be", l)
		}
	}
	for _, base := range []int{0, 19996} {
		for _, l := range anyLists(3, base) {
			if got := spans.May(l); got != mayBe(l) {
				t.Fatalf("May(%d): %v", l, got)
			}
		}
	}
	// Each list that may be, with one number that is another one.
	for _, l := range some {
		for i := range l {
			for _, n := range extremes(l) {
				a, b := slices.Clone(l), slices.Clone(l)
				a[i].From, b[i].Len = n, n
				if spans.May(a) != mayBe(a) || spans.May(b) != mayBe(b) {
					t.Errorf("%d: %v, %d: %v", a, spans.May(a), b, spans.May(b))
				}
			}
		}
	}
}

// extremes are numbers at the limits of a list, of places and of an int, and those beside.
func extremes(l []api.Span) []int {
	numbers := []int{math.MinInt, math.MinInt + 1, math.MinInt + maxCells, -maxCells - 1, -maxCells, -2, -1, 0, 1, 2, 3, maxCells - 2, maxCells - 1, maxCells, maxCells + 1, 2 * maxCells, 1 << 40, math.MaxInt - maxCells, math.MaxInt - 1, math.MaxInt}
	for i, s := range l {
		if i < 2 || i > len(l)-3 {
			end := s.From + s.Len
			numbers = append(numbers, s.From-1, s.From, s.From+1, s.From+2, end-1, end, end+1, maxCells-end-1, maxCells-end, maxCells-end+1, s.Len, s.Len+1)
		}
	}
	return numbers
}

// norm checks Norm of spans against the model.
func norm(t *testing.T, l []api.Span) {
	t.Helper()
	for _, s := range l {
		// Of the Len 0 a From up to MaxCells, else each place at most the greatest one.
		if s.From < 0 || s.Len < 0 || s.From > maxCells || s.Len > maxCells-s.From {
			if got, e := spans.Norm(l); len(got) != 0 || e != api.ErrArg {
				t.Errorf("Norm(%d): %d, %d", l, got, e)
			}
			return
		}
	}
	want := listOf(places(l))
	if got, e := spans.Norm(l); !slices.Equal(got, want) || e != api.OK {
		t.Errorf("Norm(%d): %d, %d, not %d", l, got, e, want)
	}
}

// P7.1: as they are written out.
func TestNorm(t *testing.T) {
	for _, x := range []struct{ l, want []api.Span }{
		{nil, nil}, {[]api.Span{}, nil}, {list(3, 0), nil}, {list(20000, 0), nil}, {list(0, 0, 20000, 0), nil}, {list(0, 20000), list(0, 20000)}, {list(19999, 1), list(19999, 1)},
		{list(3, 1), list(3, 1)}, {list(3, 1, 1, 1), list(1, 1, 3, 1)}, {list(3, 1, 2, 1), list(2, 2)}, {list(2, 1, 3, 1), list(2, 2)}, {list(2, 4, 3, 1), list(2, 4)}, {list(3, 1, 2, 4), list(2, 4)}, {list(2, 4, 2, 4), list(2, 4)}, {list(2, 4, 4, 4), list(2, 6)}, {list(2, 2, 2, 4), list(2, 4)},
		{list(2, 1, 3, 0, 4, 1), list(2, 1, 4, 1)}, {list(5, 0, 2, 1, 9, 0, 4, 1), list(2, 1, 4, 1)}, {list(2, 9, 3, 1, 5, 1), list(2, 9)}, {list(9, 1, 0, 3, 5, 1, 3, 1), list(0, 4, 5, 1, 9, 1)}, {list(19990, 10, 20000, 0), list(19990, 10)}, {list(4, 2, 8, 2, 6, 2), list(4, 6)},
	} {
		if l, e := spans.Norm(x.l); !slices.Equal(l, x.want) || e != api.OK {
			t.Errorf("Norm(%d): %d, %d", x.l, l, e)
		}
	}
	for _, l := range [][]api.Span{
		list(-1, 0), list(-1, 1), list(-1, 2), list(0, -1), list(5, -1), list(20001, 0), list(20000, 1), list(19999, 2), list(0, 20001), list(20001, -1), list(-1, -1), list(math.MaxInt, 0), list(math.MinInt, 0), list(0, math.MinInt), list(0, math.MaxInt), list(1, math.MaxInt), list(math.MaxInt, math.MaxInt), list(math.MinInt, math.MinInt), list(math.MinInt, math.MaxInt), list(20000, math.MaxInt), list(20000, math.MinInt),
		list(0, 1, -1, 1), list(-1, 1, 0, 1), list(0, 1, 3, -1, 5, 1), list(0, 20000, 20000, 1), list(0, 20000, 5, -1), list(5, -1, 5, 1), list(7, 3, 20001, 0),
	} {
		if got, e := spans.Norm(l); len(got) != 0 || e != api.ErrArg {
			t.Errorf("Norm(%d): %d, %d", l, got, e)
		}
	}
}

// P7.1: of all small lists, such as may not be too, and of many greater ones.
func TestNormEach(t *testing.T) {
	for _, l := range slices.Concat(some, wrong, anyLists(3, 0), anyLists(3, 19996)) {
		norm(t, l)
		if t.Failed() {
			return
		}
	}
	r := rand.New(rand.NewSource(7))
	for range 3000 {
		var l []api.Span
		for range r.Intn(30) {
			from := r.Intn(60)
			if r.Intn(9) == 0 {
				from = maxCells - r.Intn(9)
			}
			l = append(l, api.Span{From: from, Len: min(r.Intn(6), maxCells-from)})
		}
		norm(t, l)
		if len(l) > 0 && r.Intn(9) == 0 {
			l[r.Intn(len(l))].Len = maxCells + 1
			norm(t, l)
		}
	}
	// What may be is its own list, in whatever order its spans are told.
	for range 300 {
		l := random(r, 1+r.Intn(maxCells))
		mixed := slices.Clone(l)
		r.Shuffle(len(mixed), func(i, j int) { mixed[i], mixed[j] = mixed[j], mixed[i] })
		if got, e := spans.Norm(append(mixed, mixed...)); !slices.Equal(got, l) || e != api.OK {
			t.Fatalf("Norm(%d twice): %d, %d", mixed, got, e)
		}
	}
	many := slices.Repeat(list(7, 2, 3, 5, 0, 1), 30000)
	if l, e := spans.Norm(many); !slices.Equal(l, list(0, 1, 3, 6)) || e != api.OK {
		t.Error(l, e)
	}
	if l, e := spans.Norm(append(every(1), every(0)...)); !slices.Equal(l, list(0, 20000)) || e != api.OK {
		t.Error(l, e)
	}
}

// asks checks what is told of a list's places against the model.
func asks(t *testing.T, l []api.Span) {
	t.Helper()
	x := set(l)
	may := x != nil
	total := 0
	if may {
		for _, s := range l {
			total += s.Len
		}
	}
	if got := spans.Total(l); got != total {
		t.Errorf("Total(%d): %d, not %d", l, got, total)
	}
	for _, p := range extremes(l) {
		has, ahead := false, 0
		if may && p >= 0 {
			has = p < maxCells && x.Bit(p) == 1
			low, _ := cut(x, min(p, maxCells))
			for _, s := range listOf(low) {
				ahead += s.Len
			}
		}
		if got := spans.Has(l, p); got != has {
			t.Errorf("Has(%d, %d): %v", l, p, got)
		}
		if got := spans.Ahead(l, p); got != ahead {
			t.Errorf("Ahead(%d, %d): %d, not %d", l, p, got, ahead)
		}
	}
}

// P7.2
func TestAsks(t *testing.T) {
	l := list(2, 3, 7, 1, 19998, 2)
	if n := spans.Total(l); n != 6 {
		t.Error(n)
	}
	for _, x := range []struct {
		p, ahead int
		has      bool
	}{{-1, 0, false}, {0, 0, false}, {2, 0, true}, {3, 1, true}, {4, 2, true}, {5, 3, false}, {6, 3, false}, {7, 3, true}, {8, 4, false}, {19997, 4, false}, {19998, 4, true}, {19999, 5, true}, {20000, 6, false}, {20001, 6, false}, {math.MaxInt, 6, false}, {math.MinInt, 0, false}} {
		if got := spans.Has(l, x.p); got != x.has {
			t.Errorf("Has %d: %v", x.p, got)
		}
		if got := spans.Ahead(l, x.p); got != x.ahead {
			t.Errorf("Ahead %d: %d", x.p, got)
		}
	}
	for _, l := range slices.Concat(some, wrong, windows(8, 0), windows(5, 19995), [][]api.Span{every(0), every(1)}) {
		asks(t, l)
	}
	for _, l := range slices.Concat(anyLists(2, 0), anyLists(2, 19996)) {
		asks(t, l)
		if t.Failed() {
			return
		}
	}
	r := rand.New(rand.NewSource(72))
	for range 300 {
		asks(t, random(r, 1+r.Intn(maxCells)))
	}
}

// P7.2: of lists that may not be, where a part of them may.
func TestAsksOfNoList(t *testing.T) {
	for _, l := range wrong {
		if n := spans.Total(l); n != 0 {
			t.Errorf("Total(%d): %d", l, n)
		}
		for p := -2; p < 12; p++ {
			if spans.Has(l, p) || spans.Ahead(l, p) != 0 {
				t.Errorf("of %d, %d: %v, %d", l, p, spans.Has(l, p), spans.Ahead(l, p))
			}
		}
	}
}

// moves checks Open and Shut against the model, and P7.5: what is opened is shut as it was, and what was shut opened.
func moves(t *testing.T, l []api.Span, at, n int) {
	t.Helper()
	want, e := modelOpen(l, at, n)
	got, err := spans.Open(l, at, n)
	if !slices.Equal(got, want) || err != e {
		t.Errorf("Open(%d, %d, %d): %d, %d, not %d, %d", l, at, n, got, err, want, e)
	}
	if err == api.OK {
		if back, ok := spans.Shut(got, at, n); !slices.Equal(back, l) || !ok {
			t.Errorf("Shut(%d, %d, %d): %d, %v", got, at, n, back, ok)
		}
	}
	shut, ok := modelShut(l, at, n)
	got, done := spans.Shut(l, at, n)
	if !slices.Equal(got, shut) || done != ok {
		t.Errorf("Shut(%d, %d, %d): %d, %v, not %d, %v", l, at, n, got, done, shut, ok)
	}
	if done {
		if back, err := spans.Open(got, at, n); !slices.Equal(back, l) || err != api.OK {
			t.Errorf("Open(%d, %d, %d): %d, %d", got, at, n, back, err)
		}
	}
}

// P7.3: as they are written out.
func TestOpen(t *testing.T) {
	for _, x := range []struct {
		l     []api.Span
		at, n int
		want  []api.Span
		e     api.Errno
	}{
		{nil, 0, 5, nil, 0}, {nil, 20000, math.MaxInt, nil, 0}, {list(2, 4), 0, 3, list(5, 4), 0}, {list(2, 4), 1, 3, list(5, 4), 0}, {list(2, 4), 2, 3, list(5, 4), 0}, {list(2, 4), 3, 1, list(2, 1, 4, 3), 0}, {list(2, 4), 5, 1, list(2, 3, 6, 1), 0}, {list(2, 4), 6, 1, list(2, 4), 0}, {list(2, 4), 7, 1, list(2, 4), 0},
		{list(2, 4), 4, 0, list(2, 4), 0}, {list(2, 4), 2, 0, list(2, 4), 0}, {list(2, 1, 4, 1), 3, 2, list(2, 1, 6, 1), 0}, {list(2, 1, 4, 1), 4, 2, list(2, 1, 6, 1), 0}, {list(0, 2, 4, 2, 8, 2), 5, 10, list(0, 2, 4, 1, 15, 1, 18, 2), 0},
		{list(2, 4), 6, math.MaxInt, list(2, 4), 0}, {list(2, 4), 20000, math.MaxInt, list(2, 4), 0}, {list(2, 4), 5, 19994, list(2, 3, 19999, 1), 0}, {list(2, 4), 5, 19995, nil, api.ErrFull}, {list(2, 4), 0, math.MaxInt, nil, api.ErrFull}, {list(0, 20000), 0, 1, nil, api.ErrFull}, {list(0, 20000), 19999, 1, nil, api.ErrFull}, {list(0, 20000), 20000, 1, list(0, 20000), 0}, {list(0, 20000), 7, 0, list(0, 20000), 0},
		{list(2, 0), 0, 1, nil, api.ErrArg}, {list(0, 1, 1, 1), 0, 1, nil, api.ErrArg}, {list(2, 4), -1, 1, nil, api.ErrArg}, {list(2, 4), 20001, 1, nil, api.ErrArg}, {list(2, 4), 20001, 0, nil, api.ErrArg}, {list(2, 4), 3, -1, nil, api.ErrArg}, {list(2, 4), 9, -1, nil, api.ErrArg}, {nil, 0, -1, nil, api.ErrArg}, {nil, -1, 0, nil, api.ErrArg}, {nil, 20001, 0, nil, api.ErrArg}, {list(2, 4), math.MaxInt, math.MaxInt, nil, api.ErrArg}, {list(2, 4), math.MinInt, 0, nil, api.ErrArg}, {list(2, 4), 3, math.MinInt, nil, api.ErrArg},
		{list(0, 20001), 0, 1, nil, api.ErrArg}, {list(5, 1, 4, 1), 0, math.MaxInt, nil, api.ErrArg}, {list(2, 4), -1, math.MaxInt, nil, api.ErrArg}, {list(0, 20000), 20001, 1, nil, api.ErrArg}, // where it would be full, too
	} {
		if l, e := spans.Open(x.l, x.at, x.n); !slices.Equal(l, x.want) || e != x.e {
			t.Errorf("Open(%d, %d, %d): %d, %d, not %d, %d", x.l, x.at, x.n, l, e, x.want, x.e)
		}
	}
}

// P7.3: as they are written out.
func TestShut(t *testing.T) {
	for _, x := range []struct {
		l     []api.Span
		at, n int
		want  []api.Span
		ok    bool
	}{
		{nil, 0, 5, nil, true}, {nil, 20000, math.MaxInt, nil, true}, {list(5, 4), 0, 3, list(2, 4), true}, {list(5, 4), 0, 5, list(0, 4), true}, {list(5, 4), 2, 3, list(2, 4), true}, {list(2, 1, 4, 3), 3, 1, list(2, 4), true}, {list(2, 1, 5, 3), 3, 1, list(2, 1, 4, 3), true}, {list(2, 1, 5, 3), 4, 1, list(2, 1, 4, 3), true}, {list(2, 4), 6, 9, list(2, 4), true},
		{list(2, 4), 4, 0, list(2, 4), true}, {list(2, 4), 2, 0, list(2, 4), true}, {list(2, 4), 6, math.MaxInt, list(2, 4), true}, {list(2, 4), 20000, math.MaxInt, list(2, 4), true}, {list(0, 20000), 20000, 1, list(0, 20000), true}, {list(2, 3, 19999, 1), 5, 19994, list(2, 4), true}, {list(19999, 1), 0, 19999, list(0, 1), true}, {list(0, 2, 4, 1, 15, 1, 18, 2), 5, 10, list(0, 2, 4, 2, 8, 2), true},
		{list(5, 4), 0, 6, nil, false}, {list(5, 4), 5, 1, nil, false}, {list(5, 4), 8, 1, nil, false}, {list(5, 4), 6, 1, nil, false}, {list(5, 4), 4, 2, nil, false}, {list(5, 4), 4, math.MaxInt, nil, false}, {list(2, 1, 5, 3), 3, 3, nil, false}, {list(2, 1, 5, 3), 2, 1, nil, false}, {list(2, 1, 9, 1), 5, 6, nil, false}, {list(19999, 1), 19999, 1, nil, false}, {list(19999, 1), 0, 20000, nil, false}, {list(0, 20000), 0, 1, nil, false},
		{list(2, 0), 0, 1, nil, false}, {list(2, 0), 9, 0, nil, false}, {list(0, 1, 1, 1), 5, 1, nil, false}, {list(2, 4), -1, 1, nil, false}, {list(2, 4), 20001, 1, nil, false}, {list(2, 4), 20001, 0, nil, false}, {list(2, 4), 9, -1, nil, false}, {list(2, 4), 3, -1, nil, false}, {nil, 0, -1, nil, false}, {nil, -1, 0, nil, false}, {nil, 20001, 0, nil, false}, {list(2, 4), math.MaxInt, math.MaxInt, nil, false}, {list(2, 4), math.MinInt, 0, nil, false}, {list(2, 4), 9, math.MinInt, nil, false},
	} {
		if l, ok := spans.Shut(x.l, x.at, x.n); !slices.Equal(l, x.want) || ok != x.ok {
			t.Errorf("Shut(%d, %d, %d): %d, %v, not %d, %v", x.l, x.at, x.n, l, ok, x.want, x.ok)
		}
	}
}

// P7.3, P7.5: at each point, by each n, where something may change.
func TestMoves(t *testing.T) {
	for _, l := range slices.Concat(some, wrong) {
		for _, at := range extremes(l) {
			for _, n := range extremes(l) {
				moves(t, l, at, n)
			}
		}
		if t.Failed() {
			return
		}
	}
	for _, base := range []int{0, 19994} {
		for _, l := range windows(6, base) {
			for at := base - 1; at <= base+7; at++ {
				for n := -1; n < 9; n++ {
					moves(t, l, at, n)
				}
			}
		}
	}
	r := rand.New(rand.NewSource(73))
	for range 3000 {
		most := 1 + r.Intn(300)
		moves(t, random(r, most), r.Intn(most+2), r.Intn(9))
	}
	for _, l := range [][]api.Span{every(0), every(1)} {
		for _, at := range []int{0, 1, 9999, 10000, 19998, 19999, 20000} {
			for n := range 3 {
				moves(t, l, at, n)
			}
		}
	}
}

// two checks Any, Both and Less of two lists against the model.
func two(t *testing.T, a, b []api.Span) {
	t.Helper()
	x, y := set(a), set(b)
	e := api.OK
	if x == nil || y == nil {
		e = api.ErrArg
	}
	for _, f := range []struct {
		name string
		call func(a, b []api.Span) ([]api.Span, api.Errno)
		bits func(z, x, y *big.Int) *big.Int
	}{{"Any", spans.Any, (*big.Int).Or}, {"Both", spans.Both, (*big.Int).And}, {"Less", spans.Less, (*big.Int).AndNot}} {
		var want []api.Span
		if e == api.OK {
			want = listOf(f.bits(new(big.Int), x, y))
		}
		if got, err := f.call(a, b); !slices.Equal(got, want) || err != e {
			t.Errorf("%s(%d, %d): %d, %d, not %d, %d", f.name, a, b, got, err, want, e)
		}
	}
}

// P7.4: as they are written out.
func TestTwoLists(t *testing.T) {
	for _, x := range []struct{ a, b, any, both, less []api.Span }{
		{nil, nil, nil, nil, nil}, {list(2, 3), nil, list(2, 3), nil, list(2, 3)}, {nil, list(2, 3), list(2, 3), nil, nil}, {list(2, 3), list(2, 3), list(2, 3), list(2, 3), nil}, {list(2, 3), list(5, 1), list(2, 4), nil, list(2, 3)}, {list(5, 1), list(2, 3), list(2, 4), nil, list(5, 1)}, {list(2, 3), list(6, 1), list(2, 3, 6, 1), nil, list(2, 3)},
		{list(2, 3), list(3, 5), list(2, 6), list(3, 2), list(2, 1)}, {list(3, 5), list(2, 3), list(2, 6), list(3, 2), list(5, 3)}, {list(2, 5), list(3, 2), list(2, 5), list(3, 2), list(2, 1, 5, 2)}, {list(3, 2), list(2, 5), list(2, 5), list(3, 2), nil}, {list(2, 5), list(2, 2), list(2, 5), list(2, 2), list(4, 3)}, {list(2, 5), list(5, 2), list(2, 5), list(5, 2), list(2, 3)},
		{list(0, 1, 2, 1, 4, 1), list(1, 1, 3, 1), list(0, 5), nil, list(0, 1, 2, 1, 4, 1)}, {list(0, 20000), list(0, 1, 19999, 1), list(0, 20000), list(0, 1, 19999, 1), list(1, 19998)}, {list(0, 10000), list(10000, 10000), list(0, 20000), nil, list(0, 10000)}, {list(0, 3, 5, 3), list(2, 4), list(0, 8), list(2, 1, 5, 1), list(0, 2, 6, 2)}, {list(19999, 1), list(19999, 1), list(19999, 1), list(19999, 1), nil},
	} {
		for _, f := range []struct {
			call func(a, b []api.Span) ([]api.Span, api.Errno)
			want []api.Span
		}{{spans.Any, x.any}, {spans.Both, x.both}, {spans.Less, x.less}} {
			if got, e := f.call(x.a, x.b); !slices.Equal(got, f.want) || e != api.OK {
				t.Errorf("of %d and %d: %d, %d, not %d", x.a, x.b, got, e, f.want)
			}
		}
	}
}

// P7.4: each two of these, such as may not be too, and many more.
func TestEachTwo(t *testing.T) {
	for _, all := range [][][]api.Span{slices.Concat(some, wrong), windows(7, 0), windows(5, 19995), anyLists(1, 0), anyLists(1, 19996)} {
		for _, a := range all {
			for _, b := range all {
				two(t, a, b)
			}
			if t.Failed() {
				return
			}
		}
	}
	r := rand.New(rand.NewSource(74))
	for range 3000 {
		most := 1 + r.Intn(300)
		two(t, random(r, most), random(r, most))
	}
	for _, a := range [][]api.Span{every(0), every(1), list(0, 20000), random(r, maxCells)} {
		for _, b := range [][]api.Span{every(0), every(1), nil, random(r, maxCells)} {
			two(t, a, b)
			two(t, b, a)
		}
	}
}

// call is one that answers a list.
type call struct {
	name string
	of   func(a, b []api.Span) []api.Span
}

// calls are all that answer a list, at some points of the first one, and by some numbers.
func calls(a []api.Span) []call {
	norm := func(a, b []api.Span) []api.Span { l, _ := spans.Norm(a); return l }
	of := func(f func(a, b []api.Span) ([]api.Span, api.Errno)) func(a, b []api.Span) []api.Span {
		return func(a, b []api.Span) []api.Span { l, _ := f(a, b); return l }
	}
	all := []call{{"Norm", norm}, {"Any", of(spans.Any)}, {"Both", of(spans.Both)}, {"Less", of(spans.Less)}}
	points := []int{0, 1, 3, 9, maxCells}
	if len(a) > 0 {
		points = append(points, a[0].From, a[0].From+1, a[len(a)-1].From+a[len(a)-1].Len)
	}
	for _, at := range points {
		for n := range 3 {
			all = append(all,
				call{"Open", func(a, b []api.Span) []api.Span { l, _ := spans.Open(a, at, n); return l }},
				call{"Shut", func(a, b []api.Span) []api.Span { l, _ := spans.Shut(a, at, n); return l }})
		}
	}
	return all
}

// spare stands in the room behind a list that is handed in.
var spare = api.Span{From: -77, Len: -77}

// given is a list with room to spare.
func given(l []api.Span) []api.Span {
	return append(slices.Clone(l), slices.Repeat([]api.Span{spare}, 20)...)[:len(l)]
}

// left tells whether a list that was handed in, and its room, are as they were.
func left(l, as []api.Span) bool {
	whole := l[:len(l)+20]
	return slices.Equal(l, as) && !slices.ContainsFunc(whole[len(l):], func(s api.Span) bool { return s != spare })
}

// scrawl writes over a list, and over its room.
func scrawl(l []api.Span) {
	for i := range l[:cap(l)] {
		l[:cap(l)][i] = api.Span{From: -99, Len: -99}
	}
}

// Rule 5: no call changes what it is given, and none answers what shares memory with that, or with another answer.
func TestMemory(t *testing.T) {
	all := slices.Concat(some, [][]api.Span{list(5, 1, 1, 3, 4, 1), list(0, 0), list(-1, 1)})
	for _, as := range all {
		for _, bs := range all {
			for _, c := range calls(as) {
				a, b := given(as), given(bs)
				one, other := c.of(a, b), c.of(a, b)
				want := slices.Clone(one)
				if !left(a, as) || !left(b, bs) || !slices.Equal(other, want) {
					t.Fatalf("%s of %d and %d: left %d and %d, answered %d, then %d", c.name, as, bs, a, b, one, other)
				}
				scrawl(one)
				if !left(a, as) || !left(b, bs) || !slices.Equal(other, want) {
					t.Fatalf("%s of %d and %d: the answer shares memory", c.name, as, bs)
				}
				scrawl(a)
				scrawl(b)
				if !slices.Equal(other, want) {
					t.Fatalf("%s of %d and %d: the answer is kept by what was given", c.name, as, bs)
				}
			}
		}
	}
	same := list(1, 2, 5, 1)
	for _, c := range calls(same) { // one list twice, which is one memory
		scrawl(c.of(same, same))
	}
	if !slices.Equal(same, list(1, 2, 5, 1)) {
		t.Error(same)
	}
}

// Rule 4: nil and empty are one and the same.
func TestNilIsEmpty(t *testing.T) {
	none := []api.Span{}
	if !spans.May(nil) || !spans.May(none) || spans.Total(nil)+spans.Total(none) != 0 || spans.Has(nil, 0) || spans.Has(none, 0) || spans.Ahead(nil, 9)+spans.Ahead(none, 9) != 0 {
		t.Error("asked")
	}
	for _, l := range some {
		for _, c := range calls(nil) {
			if a, b := c.of(nil, l), c.of(none, l); !slices.Equal(a, b) {
				t.Errorf("%s of none and %d: %d, %d", c.name, l, a, b)
			}
			if a, b := c.of(l, nil), c.of(l, none); !slices.Equal(a, b) {
				t.Errorf("%s of %d and none: %d, %d", c.name, l, a, b)
			}
		}
	}
}
