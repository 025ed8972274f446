package incl_test

import (
	"math"
	"math/rand"
	"slices"
	"strings"
	"testing"
	"unsafe"

	"foolscap/api"
	"foolscap/incl"
	"foolscap/model"
)

// The limits, as the chapters write them out.
const (
	maxCells = model.MaxCells
	maxSites = model.MaxSites
	maxNum   = model.MaxNum
)

// What the tests take from the model, in short.
var (
	list, name, insertion, deletion = model.List, model.Name, model.Insertion, model.Deletion
	mayUpon, adds, runesOf, before  = model.MayUpon, model.Adds, model.RunesOf, model.Before
	behind, alike, short            = model.Behind, model.Alike, model.Short
	blank, play, subsets, each      = model.Blank, model.Play, model.Subsets, model.Each
)

// modelIncl follows P9.1's words.
func modelIncl(a, b api.Op, size int) (api.Op, api.Errno) {
	if !mayUpon(a, size) || !mayUpon(b, size) || a.Name.Site == b.Name.Site && a.Name.Seq == b.Name.Seq {
		return api.Op{}, api.ErrArg
	}
	op := behind(a, b)
	if !mayUpon(op, size+adds(b)) {
		return api.Op{}, api.ErrFull
	}
	return op, api.OK
}

// modelPoint follows P9.3's words.
func modelPoint(p int, b api.Op, size int, stays bool) (int, api.Errno) {
	if !mayUpon(b, size) || p < 0 || p > size {
		return 0, api.ErrArg
	}
	if b.Kind == 1 && (p > b.At || p == b.At && !stays) {
		return p + runesOf(b.Text), api.OK
	}
	return p, api.OK
}

// holds checks Incl of both ways round, and Meet, against the model.
func holds(t *testing.T, a, b api.Op, size int) {
	t.Helper()
	wantA, errA := modelIncl(a, b, size)
	wantB, errB := modelIncl(b, a, size)
	if got, err := incl.Incl(a, b, size); !alike(got, wantA) || err != errA {
		t.Fatalf("Incl(%v, %v, %d): %v, %d, not %v, %d", short(a), short(b), size, short(got), err, short(wantA), errA)
	}
	if got, err := incl.Incl(b, a, size); !alike(got, wantB) || err != errB {
		t.Fatalf("Incl(%v, %v, %d): %v, %d, not %v, %d", short(b), short(a), size, short(got), err, short(wantB), errB)
	}
	want := errA
	if want == api.OK {
		want = errB
	}
	if want != api.OK {
		wantA, wantB = api.Op{}, api.Op{}
	}
	if gotA, gotB, err := incl.Meet(a, b, size); !alike(gotA, wantA) || !alike(gotB, wantB) || err != want {
		t.Fatalf("Meet(%v, %v, %d): %v, %v, %d, not %v, %v, %d", short(a), short(b), size, short(gotA), short(gotB), err, short(wantA), short(wantB), want)
	}
}

// holdsPoint checks Point against the model, staying and not.
func holdsPoint(t *testing.T, p int, b api.Op, size int) {
	t.Helper()
	for _, stays := range []bool{false, true} {
		want, wanted := modelPoint(p, b, size, stays)
		if got, err := incl.Point(p, b, size, stays); got != want || err != wanted {
			t.Fatalf("Point(%d, %v, %d, %v): %d, %d, not %d, %d", p, short(b), size, stays, got, err, want, wanted)
		}
	}
}

// upon are all operations of a name upon a small size: of two texts, of some numbers, of each set of places.
func upon(n api.Name, size int, nums ...int) []api.Op {
	var l []api.Op
	for _, num := range nums {
		for at := range size + 1 {
			l = append(l, insertion(n, num, at, "a"), insertion(n, num, at, "\u00e9\U0001f642"))
		}
	}
	for _, set := range subsets(size) {
		op := deletion(n, nums[len(set)%len(nums)])
		op.Spans = set
		l = append(l, op)
	}
	return l
}

// twos are names of two operations, the less one first and last.
var twos = [][2]api.Name{{name(1, 1), name(1, 2)}, {name(1, 2), name(1, 1)}, {name(1, 9), name(2, 3)}, {name(2, 3), name(1, 9)}, {name(3, 5), name(3, 500)}, {name(16, 1), name(15, maxNum)}}

// The chapter's examples.
func TestExamples(t *testing.T) {
	one, two := insertion(name(1, 1), 1, 2, "ab"), insertion(name(2, 1), 2, 2, "c")
	if op, err := incl.Incl(two, one, 5); op.At != 4 || err != api.OK {
		t.Error(op, err)
	}
	if op, err := incl.Incl(one, two, 5); op.At != 2 || err != api.OK {
		t.Error(op, err)
	}
	if op, err := incl.Incl(deletion(name(3, 1), 0, 1, 3), one, 5); !slices.Equal(op.Spans, list(1, 1, 4, 2)) || err != api.OK {
		t.Error(op, err)
	}
}

// P9.1: insertions behind insertions, as they are written out.
func TestInsertions(t *testing.T) {
	for _, x := range []struct {
		p, num  int
		name    api.Name
		q, num2 int
		name2   api.Name
		want    int
	}{
		// Below, at and above, whichever is before the other one.
		{2, 1, name(1, 1), 3, 2, name(2, 1), 2}, {2, 2, name(2, 1), 3, 1, name(1, 1), 2}, {4, 1, name(1, 1), 3, 2, name(2, 1), 7}, {4, 2, name(2, 1), 3, 1, name(1, 1), 7}, {0, 2, name(2, 1), 5, 1, name(1, 1), 0}, {5, 1, name(1, 1), 0, 2, name(2, 1), 8},
		// At one place, by Num, whatever the names.
		{3, 1, name(1, 1), 3, 2, name(2, 1), 3}, {3, 2, name(1, 1), 3, 1, name(2, 1), 6}, {3, 1, name(2, 1), 3, 2, name(1, 1), 3}, {3, 2, name(2, 1), 3, 1, name(1, 1), 6}, {0, 2, name(1, 1), 0, 1, name(2, 1), 3}, {5, 2, name(1, 1), 5, 1, name(2, 1), 8}, {5, 1, name(2, 1), 5, 2, name(1, 1), 5},
		// A Num of 0 is greater than all.
		{3, 0, name(1, 1), 3, 1, name(2, 1), 6}, {3, 1, name(2, 1), 3, 0, name(1, 1), 3}, {3, 0, name(1, 1), 3, maxNum, name(2, 1), 6}, {3, maxNum, name(2, 1), 3, 0, name(1, 1), 3}, {3, 0, name(2, 1), 3, 7, name(1, 1), 6}, {3, 7, name(1, 1), 3, 0, name(2, 1), 3},
		// Of Nums that are alike by names: by the site, then by the Seq.
		{3, 0, name(1, 1), 3, 0, name(2, 1), 3}, {3, 0, name(2, 1), 3, 0, name(1, 1), 6}, {3, 0, name(1, 9), 3, 0, name(2, 1), 3}, {3, 0, name(2, 1), 3, 0, name(1, 9), 6}, {3, 0, name(1, 1), 3, 0, name(1, 2), 3}, {3, 0, name(1, 2), 3, 0, name(1, 1), 6}, {3, 7, name(1, 1), 3, 7, name(1, 2), 3}, {3, 7, name(1, 2), 3, 7, name(1, 1), 6}, {3, 7, name(9, 1), 3, 7, name(10, 1), 3}, {3, 7, name(10, 1), 3, 7, name(9, 1), 6},
	} {
		a, b := insertion(x.name, x.num, x.p, "xy"), insertion(x.name2, x.num2, x.q, "a\u20ac\U0001f642")
		want := a
		want.At = x.want
		if got, err := incl.Incl(a, b, 5); !alike(got, want) || err != api.OK {
			t.Errorf("%v behind %v: %v, %d", a, b, got, err)
		}
	}
}

// P9.1: deletions behind insertions, as they are written out.
func TestDeletions(t *testing.T) {
	for _, x := range []struct {
		l    []api.Span
		q    int
		want []api.Span
	}{
		{nil, 3, nil}, {nil, 0, nil}, {nil, 9, nil}, {[]api.Span{}, 3, nil},
		{list(2, 3), 0, list(4, 3)}, {list(2, 3), 1, list(4, 3)}, {list(2, 3), 2, list(4, 3)}, {list(2, 3), 3, list(2, 1, 5, 2)}, {list(2, 3), 4, list(2, 2, 6, 1)}, {list(2, 3), 5, list(2, 3)}, {list(2, 3), 6, list(2, 3)}, {list(2, 3), 9, list(2, 3)},
		{list(0, 9), 0, list(2, 9)}, {list(0, 9), 4, list(0, 4, 6, 5)}, {list(0, 9), 8, list(0, 8, 10, 1)}, {list(0, 9), 9, list(0, 9)}, {list(8, 1), 8, list(10, 1)}, {list(8, 1), 9, list(8, 1)}, {list(0, 1), 0, list(2, 1)}, {list(0, 1), 1, list(0, 1)},
		{list(1, 2, 4, 2, 7, 2), 0, list(3, 2, 6, 2, 9, 2)}, {list(1, 2, 4, 2, 7, 2), 2, list(1, 1, 4, 1, 6, 2, 9, 2)}, {list(1, 2, 4, 2, 7, 2), 3, list(1, 2, 6, 2, 9, 2)}, {list(1, 2, 4, 2, 7, 2), 4, list(1, 2, 6, 2, 9, 2)}, {list(1, 2, 4, 2, 7, 2), 5, list(1, 2, 4, 1, 7, 1, 9, 2)}, {list(1, 2, 4, 2, 7, 2), 6, list(1, 2, 4, 2, 9, 2)}, {list(1, 2, 4, 2, 7, 2), 8, list(1, 2, 4, 2, 7, 1, 10, 1)}, {list(1, 2, 4, 2, 7, 2), 9, list(1, 2, 4, 2, 7, 2)},
	} {
		// Which of them is before the other one is all the same.
		for _, num := range []int{0, 1, 2, 3} {
			a, b := deletion(name(1, 2), num), insertion(name(1, 3), 2, x.q, "\u00e9\u00e9")
			a.Spans = x.l
			want := deletion(name(1, 2), num)
			want.Spans = x.want
			if got, err := incl.Incl(a, b, 9); !alike(got, want) || err != api.OK {
				t.Errorf("%v behind %v: %v, %d", a, b, got, err)
			}
		}
	}
}

// P9.1: behind a deletion all is as it was: at its cells, ahead of them, behind them.
func TestBehindDeletions(t *testing.T) {
	for _, numbers := range [][]int{{}, {0, 9}, {0, 1}, {8, 1}, {2, 3}, {1, 1, 3, 1, 5, 4}} {
		b := deletion(name(4, 4), 2, numbers...)
		for _, a := range slices.Concat(upon(name(4, 3), 9, 0, 1, 3), upon(name(5, 1), 9, 2)) {
			if got, err := incl.Incl(a, b, 9); !alike(got, a) || err != api.OK {
				t.Errorf("%v behind %v: %v, %d", a, b, got, err)
			}
		}
	}
}

// P9.1, P9.2: all pairs upon small sizes.
func TestSmall(t *testing.T) {
	for size := range 5 {
		for _, two := range twos {
			for _, a := range upon(two[0], size, 0, 1, 2) {
				for _, b := range upon(two[1], size, 0, 1, 2) {
					holds(t, a, b, size)
				}
			}
		}
	}
}

// great are operations upon great sizes, not upon all of them.
func great(n api.Name) []api.Op {
	var l []api.Op
	for _, text := range []string{"a", "ab", strings.Repeat("\U0001f642", 199), strings.Repeat("\u00e9", 200)} {
		for i, at := range []int{0, 1, 9999, 10000, 19600, 19601, 19799, 19800, 19998, 19999} {
			l = append(l, insertion(n, i%3, at, text))
		}
	}
	for i, set := range [][]api.Span{nil, list(0, 1), list(0, 19600), list(1, 19599), list(0, 9999, 10000, 9600), list(10000, 1), list(9999, 1), list(9998, 3), list(19600, 400), list(19599, 401), list(19599, 1), list(19999, 1), list(0, 20000), list(0, 1, 19999, 1), each(0, 19600), each(1, maxCells), each(9990, 10010)} {
		op := deletion(n, i%3)
		op.Spans = set
		l = append(l, op)
	}
	return l
}

// sizes are such as may be, at the limits of what great is, and such as may not be.
var sizes = []int{math.MinInt, -maxCells, -1, 0, 1, 2, 9999, 10000, 19599, 19600, 19601, 19602, 19603, 19799, 19800, 19801, 19802, 19997, 19998, 19999, maxCells, maxCells + 1, maxCells + 2, 2 * maxCells, maxNum, math.MaxInt - 200, math.MaxInt}

// P9.1, P9.2: all pairs upon great sizes, and upon sizes upon which they may not be.
func TestGreat(t *testing.T) {
	for i, a := range great(name(2, 2)) {
		for k, b := range great(name(2, 1+2*(i%2))) {
			// All pairs of great lists take long, and tell no more than some.
			if len(a.Spans)+len(b.Spans) > 5000 && (i+k)%4 > 0 {
				continue
			}
			for _, size := range sizes {
				holds(t, a, b, size)
			}
		}
	}
}

// P9.1, P9.2: what comes of two just may be upon what the other one leaves, or is one cell too much.
func TestFull(t *testing.T) {
	lengths := []int{1, 2, 7, 100, 199, 200}
	for _, n := range lengths {
		for _, m := range lengths {
			for _, at := range [][2]int{{0, 0}, {0, 5}, {5, 0}, {maxCells - n - m, 0}, {0, maxCells - n - m}, {maxCells - n - m, maxCells - n - m}} {
				a, b := insertion(name(1, 1), 0, at[0], strings.Repeat("\u20ac", n)), insertion(name(2, 1), 5, at[1], strings.Repeat("\U0001f642", m))
				fits, full := maxCells-n-m, maxCells-n-m+1
				if op, err := incl.Incl(a, b, fits); op.Text != a.Text || err != api.OK {
					t.Errorf("%d behind %d: %v, %d", n, m, short(op), err)
				}
				if _, op, err := incl.Meet(a, b, fits); op.Text != b.Text || err != api.OK {
					t.Errorf("%d behind %d: %v, %d", m, n, short(op), err)
				}
				if op, err := incl.Incl(a, b, full); !alike(op, api.Op{}) || err != api.ErrFull {
					t.Errorf("%d behind %d: %v, %d", n, m, short(op), err)
				}
				if one, two, err := incl.Meet(a, b, full); !alike(one, api.Op{}) || !alike(two, api.Op{}) || err != api.ErrFull {
					t.Errorf("%d and %d: %v, %v, %d", n, m, short(one), short(two), err)
				}
				holds(t, a, b, fits-1)
				holds(t, a, b, min(maxCells-n, maxCells-m))
				// Where an argument may not be, that is told first.
				for _, x := range []struct {
					other api.Op
					size  int
				}{{insertion(name(1, 1), 5, 0, b.Text), full}, {b, min(maxCells-n, maxCells-m) + 1}, {insertion(name(2, 1), 5, 0, strings.Repeat("x", 201)), full}, {insertion(name(2, 1), -1, 0, b.Text), full}} {
					if one, two, err := incl.Meet(a, x.other, x.size); !alike(one, api.Op{}) || !alike(two, api.Op{}) || err != api.ErrArg {
						t.Errorf("%d and %d: %v, %v, %d", n, m, short(one), short(two), err)
					}
				}
			}
		}
	}
}

// P9.1: a deletion behind an insertion is never too much: of the greatest places none comes to be too great.
func TestDeletionFits(t *testing.T) {
	for _, n := range []int{1, 2, 199, 200} {
		size := maxCells - n
		for _, at := range []int{0, 1, size - 1, size} {
			for _, l := range [][]api.Span{list(0, size), list(size-1, 1), list(0, 1, size-1, 1), each(0, size), each(1, size)} {
				a, b := deletion(name(1, 1), 0), insertion(name(1, 2), 0, at, strings.Repeat("\u00e9", n))
				a.Spans = l
				if op, err := incl.Incl(a, b, size); !slices.Equal(op.Spans, model.Opened(l, at, n)) || err != api.OK {
					t.Errorf("%v behind %v: %v, %d", short(a), short(b), short(op), err)
				}
				holds(t, a, b, size+1)
			}
		}
	}
}

// changes make an operation one that may not be, or one of another kind; some leave it so that it may be.
var changes = []func(op *api.Op){
	func(op *api.Op) {},
	func(op *api.Op) { *op = api.Op{} },
	func(op *api.Op) { op.Kind = 0 }, func(op *api.Op) { op.Kind = 3 }, func(op *api.Op) { op.Kind = -1 }, func(op *api.Op) { op.Kind = 257 }, func(op *api.Op) { op.Kind = math.MinInt }, func(op *api.Op) { op.Kind = math.MaxInt }, func(op *api.Op) { op.Kind = 3 - op.Kind },
	func(op *api.Op) { op.Name.Site = 0 }, func(op *api.Op) { op.Name.Site = -1 }, func(op *api.Op) { op.Name.Site = maxSites }, func(op *api.Op) { op.Name.Site = maxSites + 1 }, func(op *api.Op) { op.Name.Site = math.MinInt },
	func(op *api.Op) { op.Name.Seq = 0 }, func(op *api.Op) { op.Name.Seq = -1 }, func(op *api.Op) { op.Name.Seq = maxNum }, func(op *api.Op) { op.Name.Seq = maxNum + 1 }, func(op *api.Op) { op.Name.Seq = math.MaxInt },
	func(op *api.Op) { op.Num = -1 }, func(op *api.Op) { op.Num = maxNum }, func(op *api.Op) { op.Num = maxNum + 1 }, func(op *api.Op) { op.Num = math.MinInt }, func(op *api.Op) { op.Num = math.MaxInt },
	func(op *api.Op) { op.At = -1 }, func(op *api.Op) { op.At = 1 }, func(op *api.Op) { op.At = 9 }, func(op *api.Op) { op.At = 10 }, func(op *api.Op) { op.At = math.MinInt }, func(op *api.Op) { op.At = math.MaxInt },
	func(op *api.Op) { op.Text = "" }, func(op *api.Op) { op.Text = "x" }, func(op *api.Op) { op.Text = "\xff" }, func(op *api.Op) { op.Text = "a\xed\xa0\x80" }, func(op *api.Op) { op.Text = strings.Repeat("\u20ac", 200) }, func(op *api.Op) { op.Text = strings.Repeat("x", 201) },
	func(op *api.Op) { op.Spans = nil }, func(op *api.Op) { op.Spans = []api.Span{} }, func(op *api.Op) { op.Spans = list(0, 9) }, func(op *api.Op) { op.Spans = list(0, 10) }, func(op *api.Op) { op.Spans = list(9, 1) }, func(op *api.Op) { op.Spans = list(2, 0) }, func(op *api.Op) { op.Spans = list(2, -1) }, func(op *api.Op) { op.Spans = list(-1, 2) }, func(op *api.Op) { op.Spans = list(1, 2, 3, 1) }, func(op *api.Op) { op.Spans = list(3, 1, 1, 1) }, func(op *api.Op) { op.Spans = list(1, math.MaxInt) }, func(op *api.Op) { op.Spans = list(math.MaxInt, 1) },
}

// P9.1, P9.2, P9.3: operations that may not be, either one and both.
func TestWrong(t *testing.T) {
	var l []api.Op
	for _, op := range []api.Op{insertion(name(1, 1), 3, 4, "ab"), deletion(name(1, 1), 3, 1, 2, 5, 1)} {
		for _, change := range changes {
			x := op
			change(&x)
			l = append(l, x)
		}
	}
	for _, a := range l {
		for _, b := range l {
			b.Name.Seq++
			for _, size := range []int{-1, 8, 9, 10, maxCells - 2, maxCells, maxCells + 1} {
				holds(t, a, b, size)
			}
		}
		for _, p := range []int{-1, 0, 4, 9, 10} {
			for _, size := range []int{-1, 8, 9, 10, maxCells - 2, maxCells, maxCells + 1} {
				holdsPoint(t, p, a, size)
			}
		}
	}
	// As they are written out: the one, the other, and neither may be.
	ins, del, none := insertion(name(1, 1), 0, 2, "ab"), deletion(name(2, 1), 0, 1, 2), api.Op{Name: name(3, 1)}
	for _, x := range []struct {
		a, b api.Op
		size int
	}{{ins, none, 5}, {none, ins, 5}, {del, none, 5}, {none, del, 5}, {none, none, 5}, {none, api.Op{Name: name(4, 1)}, 5}, {ins, del, 1}, {del, ins, 2}, {ins, del, -1}, {ins, del, maxCells + 1}, {ins, del, maxCells - 1}, {del, ins, maxCells - 1}, {ins, ins, 5}, {del, del, 5}, {api.Op{}, api.Op{}, 0}} {
		if op, err := incl.Incl(x.a, x.b, x.size); !alike(op, api.Op{}) || err != api.ErrArg {
			t.Errorf("Incl(%v, %v, %d): %v, %d", x.a, x.b, x.size, op, err)
		}
		if one, two, err := incl.Meet(x.a, x.b, x.size); !alike(one, api.Op{}) || !alike(two, api.Op{}) || err != api.ErrArg {
			t.Errorf("Meet(%v, %v, %d): %v, %v, %d", x.a, x.b, x.size, one, two, err)
		}
	}
}

// P9.1, P9.2: two of one name, alike or not in all else; a site's, or a Seq, alike alone is none.
func TestNames(t *testing.T) {
	for _, n := range []api.Name{name(1, 1), name(3, 7), name(16, maxNum)} {
		l := upon(n, 2, 0, 1, 2)
		for _, a := range l {
			for _, b := range l {
				if op, err := incl.Incl(a, b, 2); !alike(op, api.Op{}) || err != api.ErrArg {
					t.Fatalf("Incl(%v, %v): %v, %d", a, b, op, err)
				}
				if one, two, err := incl.Meet(a, b, 2); !alike(one, api.Op{}) || !alike(two, api.Op{}) || err != api.ErrArg {
					t.Fatalf("Meet(%v, %v): %v, %v, %d", a, b, one, two, err)
				}
			}
		}
	}
	for _, n := range []api.Name{name(1, 2), name(2, 1)} {
		if _, _, err := incl.Meet(insertion(name(1, 1), 0, 0, "a"), insertion(n, 0, 0, "a"), 2); err != api.OK {
			t.Error(n, err)
		}
	}
}

// P9.2: as it is written out: each of the two where it belongs.
func TestMeet(t *testing.T) {
	a, b := insertion(name(1, 1), 0, 2, "ab"), deletion(name(2, 1), 4, 0, 4)
	one, two, err := incl.Meet(a, b, 5)
	if !alike(one, a) || !alike(two, deletion(name(2, 1), 4, 0, 2, 4, 2)) || err != api.OK {
		t.Error(one, two, err)
	}
	one, two, err = incl.Meet(b, a, 5)
	if !alike(one, deletion(name(2, 1), 4, 0, 2, 4, 2)) || !alike(two, a) || err != api.OK {
		t.Error(one, two, err)
	}
	c := insertion(name(1, 2), 0, 2, "xyz")
	one, two, err = incl.Meet(a, c, 5)
	if !alike(one, a) || !alike(two, insertion(name(1, 2), 0, 4, "xyz")) || err != api.OK {
		t.Error(one, two, err)
	}
}

// P9.3: as they are written out.
func TestPoint(t *testing.T) {
	ins, del := insertion(name(1, 1), 7, 2, "a\u00e9\U0001f642"), deletion(name(1, 1), 7, 0, 1, 2, 3)
	for _, x := range []struct {
		p     int
		b     api.Op
		stays bool
		want  int
		err   api.Errno
	}{
		{0, ins, false, 0, api.OK}, {1, ins, false, 1, api.OK}, {2, ins, false, 5, api.OK}, {3, ins, false, 6, api.OK}, {5, ins, false, 8, api.OK}, {6, ins, false, 0, api.ErrArg}, {-1, ins, false, 0, api.ErrArg},
		{0, ins, true, 0, api.OK}, {1, ins, true, 1, api.OK}, {2, ins, true, 2, api.OK}, {3, ins, true, 6, api.OK}, {5, ins, true, 8, api.OK}, {6, ins, true, 0, api.ErrArg}, {-1, ins, true, 0, api.ErrArg},
		{0, del, false, 0, api.OK}, {1, del, false, 1, api.OK}, {2, del, false, 2, api.OK}, {5, del, false, 5, api.OK}, {6, del, false, 0, api.ErrArg}, {-1, del, false, 0, api.ErrArg},
		{0, del, true, 0, api.OK}, {2, del, true, 2, api.OK}, {3, del, true, 3, api.OK}, {5, del, true, 5, api.OK}, {6, del, true, 0, api.ErrArg}, {-1, del, true, 0, api.ErrArg},
	} {
		if got, err := incl.Point(x.p, x.b, 5, x.stays); got != x.want || err != x.err {
			t.Errorf("Point(%d, %v, 5, %v): %d, %d", x.p, x.b, x.stays, got, err)
		}
	}
}

// P9.3: places at all edges, behind operations upon small and great sizes, and behind such as may not be.
func TestPoints(t *testing.T) {
	for size := range 5 {
		for _, b := range upon(name(1, 1), size, 0, 1) {
			for p := -2; p <= size+2; p++ {
				holdsPoint(t, p, b, size)
			}
		}
	}
	for _, b := range great(name(3, 3)) {
		for _, size := range sizes {
			for _, p := range []int{math.MinInt, -1, 0, 1, b.At - 1, b.At, b.At + 1, 9998, 19600, size - 1, size, size + 1, maxCells, maxCells + 1, math.MaxInt} {
				holdsPoint(t, p, b, size)
			}
		}
	}
	ins := insertion(name(1, 1), 0, 0, "a")
	for _, p := range []int{math.MinInt, -1, 1, maxCells, math.MaxInt} {
		if got, err := incl.Point(p, ins, 0, false); got != 0 || err != api.ErrArg {
			t.Errorf("Point(%d): %d, %d", p, got, err)
		}
	}
	if got, err := incl.Point(maxCells-200, insertion(name(1, 1), 0, 0, strings.Repeat("\u00e9", 200)), maxCells-200, true); got != maxCells || err != api.OK {
		t.Error(got, err)
	}
	if got, err := incl.Point(maxCells, deletion(name(1, 1), 0, 0, maxCells), maxCells, false); got != maxCells || err != api.OK {
		t.Error(got, err)
	}
}

// P9.3: a place that doesn't stay is where its cell came to be; one that stays is behind the cell ahead of it.
func TestPointGoesWithCells(t *testing.T) {
	for size := range 5 {
		doc := blank(size)
		for _, b := range upon(name(2, 1), size, 0, 1) {
			after := play(doc, b)
			at := func(off int) int {
				return slices.IndexFunc(after, func(c api.Cell) bool { return c.Name == api.Name{} && c.Off == off })
			}
			for p := range size {
				if got, err := incl.Point(p, b, size, false); got != at(p) || err != api.OK {
					t.Errorf("%d behind %v: %d, %d", p, b, got, err)
				}
				if got, err := incl.Point(p+1, b, size, true); got != at(p)+1 || err != api.OK {
					t.Errorf("%d behind %v, staying: %d, %d", p+1, b, got, err)
				}
			}
			if got, err := incl.Point(0, b, size, true); got != 0 || err != api.OK {
				t.Errorf("0 behind %v, staying: %d, %d", b, got, err)
			}
			if got, err := incl.Point(size, b, size, false); got != len(after) || err != api.OK {
				t.Errorf("%d behind %v: %d, %d", size, b, got, err)
			}
		}
	}
}

// met tells two, each behind the other one.
func met(t *testing.T, a, b api.Op, size int) (api.Op, api.Op) {
	t.Helper()
	one, two, err := incl.Meet(a, b, size)
	if err != api.OK {
		t.Fatalf("%v and %v upon %d: %d", short(a), short(b), size, err)
	}
	return one, two
}

// agree checks that two upon a document, one behind the other, leave the same, whichever goes first.
func agree(t *testing.T, doc []api.Cell, a, b api.Op) {
	t.Helper()
	aBehind, bBehind := met(t, a, b, len(doc))
	one, two := play(doc, a, bBehind), play(doc, b, aBehind)
	if !slices.Equal(one, two) {
		t.Fatalf("%v and %v upon %d: the one first leaves %v, the other first %v", short(a), short(b), len(doc), one[:min(len(one), 20)], two[:min(len(two), 20)])
	}
}

// P9.4: all pairs upon small documents.
func TestTwoAgree(t *testing.T) {
	for size := range 5 {
		doc := blank(size)
		for _, two := range twos {
			for _, a := range upon(two[0], size, 0, 1, 2) {
				for _, b := range upon(two[1], size, 0, 1, 2) {
					agree(t, doc, a, b)
				}
			}
		}
	}
}

// behindBoth tells the third, behind the one and then the other one as that is behind the first.
func behindBoth(t *testing.T, c, one, other api.Op, size int) api.Op {
	t.Helper()
	_, then := met(t, one, other, size)
	c, _ = met(t, c, one, size)
	c, _ = met(t, c, then, size+adds(one))
	return c
}

// threeAgree checks that each of three comes to be the same, whichever of the two others goes first, and that all leave the same.
func threeAgree(t *testing.T, doc []api.Cell, a, b, c api.Op) {
	t.Helper()
	size := len(doc)
	var want []api.Cell
	for i, x := range [][3]api.Op{{a, b, c}, {b, c, a}, {c, a, b}} {
		one, two := behindBoth(t, x[2], x[0], x[1], size), behindBoth(t, x[2], x[1], x[0], size)
		if !alike(one, two) {
			t.Fatalf("%v upon %d: behind %v, then %v: %v, the other way round %v", short(x[2]), size, short(x[0]), short(x[1]), short(one), short(two))
		}
		_, then := met(t, x[0], x[1], size)
		got := play(doc, x[0], then, one)
		if i == 0 {
			want = got
		} else if !slices.Equal(got, want) {
			t.Fatalf("%v, %v, %v upon %d: %v, not %v", short(x[0]), short(x[1]), short(x[2]), size, got[:min(len(got), 20)], want[:min(len(want), 20)])
		}
	}
}

// P9.4: all threes upon small documents.
func TestThreeAgree(t *testing.T) {
	for _, x := range []struct {
		size int
		nums []int
	}{{0, []int{0, 1, 2}}, {1, []int{0, 1, 2}}, {2, []int{0, 7}}} {
		doc := blank(x.size)
		for _, n := range [][3]api.Name{{name(1, 1), name(1, 2), name(2, 1)}, {name(2, 1), name(1, 2), name(1, 1)}, {name(1, 2), name(2, 1), name(1, 1)}} {
			for _, a := range upon(n[0], x.size, x.nums...) {
				for _, b := range upon(n[1], x.size, x.nums...) {
					for _, c := range upon(n[2], x.size, x.nums...) {
						threeAgree(t, doc, a, b, c)
					}
				}
			}
		}
	}
}

// random tells an operation upon a size, often at places where others are too.
func random(r *rand.Rand, n api.Name, size int) api.Op {
	at := func() int {
		return []int{0, size, size / 2, r.Intn(size + 1)}[r.Intn(4)]
	}
	if r.Intn(2) == 0 {
		return insertion(n, r.Intn(4), at(), strings.Repeat("a\u00e9\u20ac\U0001f642", 50)[:[]int{1, 3, 6, 10, 100, 500}[r.Intn(6)]])
	}
	op := deletion(n, r.Intn(4))
	for p := at(); p < size && len(op.Spans) < 40; p += 1 + r.Intn(1+size/20) {
		long := min(1+r.Intn(1+size/10), size-p)
		op.Spans = append(op.Spans, api.Span{From: p, Len: long})
		p += long + 1
	}
	return op
}

// P9.4: twos and threes upon greater documents, some cells of which are gone.
func TestManyAgree(t *testing.T) {
	r := rand.New(rand.NewSource(9))
	for i := range 3000 {
		size := []int{1, 10, 100, 1000}[i%4] + r.Intn(9)
		if i%100 == 0 {
			size = maxCells - 600 + r.Intn(3)
		}
		doc := blank(size)
		for range r.Intn(9) {
			doc[r.Intn(size)].Gone = true
		}
		a, b, c := random(r, name(1, 4), size), random(r, name(1, 5), size), random(r, name(2, 1), size)
		for _, x := range [][2]api.Op{{a, b}, {a, c}, {b, c}} {
			holds(t, x[0], x[1], size)
			agree(t, doc, x[0], x[1])
		}
		threeAgree(t, doc, a, b, c)
	}
}

// P9.1, P9.3: an insertion goes where its place goes, which stays just if the other one isn't before it.
func TestPlacesGoAlike(t *testing.T) {
	for _, two := range twos {
		for _, a := range upon(two[0], 3, 0, 1, 2) {
			for _, b := range upon(two[1], 3, 0, 1, 2) {
				if a.Kind != api.Ins {
					continue
				}
				op, _ := incl.Incl(a, b, 3)
				if p, err := incl.Point(a.At, b, 3, !before(b, a)); p != op.At || err != api.OK {
					t.Errorf("%v behind %v: at %d, its place at %d, %d", a, b, op.At, p, err)
				}
			}
		}
	}
}

// within tells whether a text's bytes are some of those of another one, in memory.
func within(part, whole string) bool {
	at, from := uintptr(unsafe.Pointer(unsafe.StringData(part))), uintptr(unsafe.Pointer(unsafe.StringData(whole)))
	return part != "" && from <= at && at < from+uintptr(len(whole))
}

// roomy tells a list with spare room behind it, that is filled.
func roomy(l []api.Span) []api.Span {
	return append(slices.Clone(l), list(-77, -77, -77, -77, -77, -77)...)[:len(l)]
}

// Rule 5: what is handed in is not changed, its spare room neither, and what is told shares no memory with it, nor with what else is told.
func TestMemory(t *testing.T) {
	long := strings.Repeat("body", 20)
	for _, a := range []api.Op{insertion(name(1, 1), 3, 4, long), deletion(name(1, 1), 3, 1, 2, 5, 1), deletion(name(1, 1), 3, 0, 9), deletion(name(1, 1), 3)} {
		for _, b := range []api.Op{insertion(name(2, 1), 3, 4, long), insertion(name(2, 1), 3, 9, long), insertion(name(2, 1), 3, 0, long), deletion(name(2, 1), 3, 1, 2, 5, 1), deletion(name(2, 1), 3)} {
			a.Spans = roomy(a.Spans)
			b.Spans = roomy(b.Spans)
			if slices.Equal(a.Spans, b.Spans) {
				b.Spans = a.Spans
			}
			wasA, wasB := slices.Clone(a.Spans[:cap(a.Spans)]), slices.Clone(b.Spans[:cap(b.Spans)])
			x, _ := incl.Incl(a, b, 9)
			y, z, _ := incl.Meet(a, b, 9)
			incl.Point(4, b, 9, true)
			if !slices.Equal(a.Spans[:cap(a.Spans)], wasA) || !slices.Equal(b.Spans[:cap(b.Spans)], wasB) {
				t.Errorf("%v and %v came to be %v, %v", wasA, wasB, a.Spans[:cap(a.Spans)], b.Spans[:cap(b.Spans)])
			}
			l := []api.Op{x, y, z, a, b}
			for i, one := range l[:3] {
				for _, other := range l[i+1:] {
					if model.Shared(one.Spans, other.Spans) || within(one.Text, other.Text) || within(other.Text, one.Text) {
						t.Errorf("%v shares memory with %v", one, other)
					}
				}
			}
		}
	}
}

// Rule 6: what a call answers hangs on its arguments alone, whatever was asked between.
func TestNothingElse(t *testing.T) {
	a, b := insertion(name(1, 1), 0, 2, "ab"), insertion(name(2, 1), 0, 2, "cde")
	c := deletion(name(3, 1), 0, 1, 3)
	for range 3 {
		if op, err := incl.Incl(b, a, 5); op.At != 4 || err != api.OK {
			t.Error(op, err)
		}
		incl.Incl(c, a, 5)
		incl.Incl(api.Op{}, b, -1)
		incl.Meet(c, b, 4)
		incl.Point(3, c, 5, false)
		if op, err := incl.Incl(c, b, 5); !slices.Equal(op.Spans, list(1, 1, 5, 2)) || err != api.OK {
			t.Error(op, err)
		}
	}
}

// Rule 4: nil and empty are one and the same.
func TestNilIsEmpty(t *testing.T) {
	for _, a := range []api.Op{insertion(name(1, 1), 0, 2, "ab"), deletion(name(1, 1), 0)} {
		for _, b := range []api.Op{insertion(name(2, 1), 0, 2, "cde"), deletion(name(2, 1), 0)} {
			emptyA, emptyB := a, b
			emptyA.Spans, emptyB.Spans = []api.Span{}, []api.Span{}
			one, two := met(t, a, b, 5)
			three, four := met(t, emptyA, emptyB, 5)
			if !alike(one, three) || !alike(two, four) {
				t.Error(a, b, one, two, three, four)
			}
			p, err := incl.Point(2, b, 5, false)
			if q, other := incl.Point(2, emptyB, 5, false); p != q || err != other {
				t.Error(b, p, q, err, other)
			}
		}
	}
}
