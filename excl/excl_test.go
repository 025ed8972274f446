package excl_test

import (
	"fmt"
	"math"
	"math/rand"
	"slices"
	"strings"
	"testing"
	"unsafe"

	"foolscap/api"
	"foolscap/excl"
	"foolscap/incl"
	"foolscap/model"
)

// The limits, as the chapters write them out.
const (
	maxCells = model.MaxCells
	maxSites = model.MaxSites
	maxNum   = model.MaxNum
)

// What the tests take from the model, in short.
var (
	list, name, insertion, deletion = model.List, model.Name, model.Insertion, model.Deletion
	mayUpon, adds, runesOf, before  = model.MayUpon, model.Adds, model.RunesOf, model.Before
	behind, hangs, torn             = model.Behind, model.Hangs, model.Torn
	alike, same, short              = model.Alike, model.SameSpans, model.Short
	blank, play, subsets, each      = model.Blank, model.Play, model.Subsets, model.Each
)

// isBehind follows the chapter's words.
func isBehind(a, b api.Op, size int) bool {
	if !mayUpon(b, size) || a.Name.Site == b.Name.Site && a.Name.Seq == b.Name.Seq {
		return false
	}
	return mayUpon(a, size+adds(b))
}

// modelTear follows P10.3's words.
func modelTear(a, b api.Op, size int) (api.Op, []api.Span, api.Errno) {
	if !isBehind(a, b, size) {
		return api.Op{}, nil, api.ErrArg
	}
	free, lost := torn(a, b)
	return free, lost, api.OK
}

// modelExcl follows P10.1's words.
func modelExcl(a, b api.Op, size int) (api.Op, api.Errno) {
	if !isBehind(a, b, size) {
		return api.Op{}, api.ErrArg
	}
	if hangs(a, b) {
		return api.Op{}, api.ErrLost
	}
	out, _ := torn(a, b)
	return out, api.OK
}

// modelSwap follows P10.2's words.
func modelSwap(a, b api.Op, size int) (api.Op, api.Op, api.Errno) {
	first, err := modelExcl(b, a, size)
	if err != api.OK {
		return api.Op{}, api.Op{}, err
	}
	second := behind(a, first)
	if !mayUpon(second, size+adds(first)) {
		return api.Op{}, api.Op{}, api.ErrFull
	}
	return first, second, api.OK
}

// holds checks Excl and Tear of a and b, and Swap of b and a, against the model; where nothing is wrong, what follows of it, too.
func holds(t *testing.T, a, b api.Op, size int) {
	t.Helper()
	wantOut, wantErr := modelExcl(a, b, size)
	if got, err := excl.Excl(a, b, size); !alike(got, wantOut) || err != wantErr {
		t.Fatalf("Excl(%v, %v, %d): %v, %d, not %v, %d", short(a), short(b), size, short(got), err, short(wantOut), wantErr)
	}
	wantFree, wantLost, wantErr := modelTear(a, b, size)
	if free, lost, err := excl.Tear(a, b, size); !alike(free, wantFree) || !same(lost, wantLost) || err != wantErr {
		t.Fatalf("Tear(%v, %v, %d): %v, %v, %d, not %v, %v, %d", short(a), short(b), size, short(free), lost, err, short(wantFree), wantLost, wantErr)
	}
	wantA, wantB, wantErr := modelSwap(b, a, size)
	if gotA, gotB, err := excl.Swap(b, a, size); !alike(gotA, wantA) || !alike(gotB, wantB) || err != wantErr {
		t.Fatalf("Swap(%v, %v, %d): %v, %v, %d, not %v, %v, %d", short(b), short(a), size, short(gotA), short(gotB), err, short(wantA), short(wantB), wantErr)
	}
	if wantErr != api.ErrArg {
		follows(t, a, b, size)
	}
}

// follows checks P10.4 of a that is behind b.
func follows(t *testing.T, a, b api.Op, size int) {
	t.Helper()
	free, lost, _ := excl.Tear(a, b, size)
	if !mayUpon(free, size) {
		t.Fatalf("%v without %v may not be upon %d: %v", short(a), short(b), size, short(free))
	}
	if got, err := excl.Mend(free, lost, b, size); !alike(got, a) || err != api.OK {
		t.Fatalf("Mend(%v, %v, %v, %d): %v, %d, not %v", short(free), lost, short(b), size, short(got), err, short(a))
	}
	out, err := excl.Excl(a, b, size)
	if err != api.OK {
		return
	}
	if got, err := incl.Incl(out, b, size); !alike(got, a) || err != api.OK {
		t.Fatalf("%v without %v comes back as %v, %d", short(a), short(b), short(got), err)
	}
	first, second, err := excl.Swap(b, a, size)
	if err != api.OK {
		t.Fatalf("Swap(%v, %v, %d): %d", short(b), short(a), size, err)
	}
	if one, other, err := excl.Swap(first, second, size); !alike(one, b) || !alike(other, a) || err != api.OK {
		t.Fatalf("%v, %v upon %d, swapped twice: %v, %v, %d", short(b), short(a), size, short(one), short(other), err)
	}
}

// refused checks that all that is asked of a and b is told to be wrong, and nothing beside it.
func refused(t *testing.T, a, b api.Op, size int) {
	t.Helper()
	if op, err := excl.Excl(a, b, size); !alike(op, api.Op{}) || err != api.ErrArg {
		t.Errorf("Excl(%v, %v, %d): %v, %d", short(a), short(b), size, short(op), err)
	}
	if one, two, err := excl.Swap(b, a, size); !alike(one, api.Op{}) || !alike(two, api.Op{}) || err != api.ErrArg {
		t.Errorf("Swap(%v, %v, %d): %v, %v, %d", short(b), short(a), size, short(one), short(two), err)
	}
	if op, lost, err := excl.Tear(a, b, size); !alike(op, api.Op{}) || len(lost) > 0 || err != api.ErrArg {
		t.Errorf("Tear(%v, %v, %d): %v, %v, %d", short(a), short(b), size, short(op), lost, err)
	}
}

// noMend checks that nothing is torn into these parts.
func noMend(t *testing.T, free api.Op, lost []api.Span, b api.Op, size int) {
	t.Helper()
	if op, err := excl.Mend(free, lost, b, size); !alike(op, api.Op{}) || err != api.ErrArg {
		t.Errorf("Mend(%v, %v, %v, %d): %v, %d", short(free), lost, short(b), size, short(op), err)
	}
}

// upon are all operations of a name upon a small size: of some texts, of some numbers, of each set of places.
func upon(n api.Name, size int, nums ...int) []api.Op {
	var l []api.Op
	for _, num := range nums {
		for at := range size + 1 {
			l = append(l, insertion(n, num, at, "a"), insertion(n, num, at, "\u00e9\U0001f642"), insertion(n, num, at, "abc"))
		}
	}
	for _, set := range subsets(size) {
		op := deletion(n, nums[len(set)%len(nums)])
		op.Spans = set
		l = append(l, op)
	}
	return l
}

// twos are names of two operations, the less one first and last.
var twos = [][2]api.Name{{name(1, 1), name(1, 2)}, {name(1, 2), name(1, 1)}, {name(1, 9), name(2, 3)}, {name(2, 3), name(1, 9)}, {name(3, 5), name(3, 500)}, {name(16, 1), name(15, maxNum)}}

// The chapter's examples.
func TestExamples(t *testing.T) {
	b := insertion(name(1, 1), 1, 2, "abc")
	a := deletion(name(2, 1), 2, 1, 3)
	if op, err := excl.Excl(a, b, 5); !alike(op, api.Op{}) || err != api.ErrLost {
		t.Error(op, err)
	}
	if free, lost, err := excl.Tear(a, b, 5); !alike(free, deletion(name(2, 1), 2, 1, 1)) || !same(lost, list(0, 2)) || err != api.OK {
		t.Error(free, lost, err)
	}
	for _, num := range []int{1, 2} {
		a, b := insertion(name(2, 1), 3-num, 4, "x"), insertion(name(1, 1), num, 2, "abc")
		if op, err := excl.Excl(a, b, 5); !alike(op, api.Op{}) || err != api.ErrLost {
			t.Error(op, err)
		}
		if free, lost, err := excl.Tear(a, b, 5); !alike(free, insertion(name(2, 1), 3-num, 2, "x")) || !same(lost, list(2, 0)) || err != api.OK {
			t.Error(free, lost, err)
		}
	}
}

// orders are two, by Num or by name, the first of which is before the other one.
var orders = []struct {
	num   int
	name  api.Name
	num2  int
	name2 api.Name
}{
	{1, name(1, 1), 2, name(2, 1)}, {1, name(2, 1), 2, name(1, 1)}, {1, name(1, 9), 2, name(1, 1)}, {9, name(16, maxNum), 10, name(1, 1)}, {maxNum - 1, name(2, 2), maxNum, name(1, 1)},
	// A Num of 0 is greater than all.
	{1, name(1, 1), 0, name(2, 1)}, {1, name(2, 1), 0, name(1, 1)}, {maxNum, name(2, 1), 0, name(1, 1)}, {maxNum, name(1, 1), 0, name(1, 2)},
	// Of Nums that are alike by names: by the site, then by the Seq.
	{0, name(1, 1), 0, name(2, 1)}, {0, name(1, 9), 0, name(2, 1)}, {0, name(1, 1), 0, name(1, 2)}, {0, name(9, 1), 0, name(10, 1)}, {7, name(1, 1), 7, name(2, 1)}, {7, name(3, 5), 7, name(3, 500)}, {7, name(15, maxNum), 7, name(16, 1)},
}

// insertions checks what comes of insertions at each place behind an insertion of n cells at 3, upon 6.
func insertions(t *testing.T, a, b api.Op, aFirst bool) {
	t.Helper()
	n := runesOf(b.Text)
	for p := range 6 + n + 1 {
		a.At = p
		want, lost := a, -1
		switch {
		case p > 3+n || p == 3+n && !aFirst:
			want.At = p - n
		case p > 3 || p == 3 && !aFirst:
			want.At, lost = 3, p-3
		}
		out, err := excl.Excl(a, b, 6)
		free, parts, wrong := excl.Tear(a, b, 6)
		if lost < 0 && (!alike(out, want) || err != api.OK || len(parts) > 0) {
			t.Errorf("%v without %v: %v, %d; torn: %v", a, b, out, err, parts)
		}
		if lost >= 0 && (!alike(out, api.Op{}) || err != api.ErrLost || !same(parts, list(lost, 0))) {
			t.Errorf("%v without %v: %v, %d; torn: %v", a, b, out, err, parts)
		}
		if !alike(free, want) || wrong != api.OK {
			t.Errorf("%v, torn from %v: %v, %d", a, b, free, wrong)
		}
	}
}

// P10.1, P10.3: insertions behind insertions: below, at, among, right behind and above their cells, whichever is before the other one.
func TestInsertions(t *testing.T) {
	for _, x := range orders {
		for _, text := range []string{"a", "ab", "a\u20ac\U0001f642", strings.Repeat("\u00e9", 199), strings.Repeat("\U0001f642", 200)} {
			insertions(t, insertion(x.name, x.num, 0, "xy"), insertion(x.name2, x.num2, 3, text), true)
			insertions(t, insertion(x.name2, x.num2, 0, "x"), insertion(x.name, x.num, 3, text), false)
		}
	}
}

// P10.1, P10.3: as they are written out: three cells at 3, and what is right there, or right behind.
func TestEnds(t *testing.T) {
	one, two := name(1, 1), name(2, 1)
	for _, x := range []struct {
		p, num, num2, want int
		lost               []api.Span
	}{
		{3, 1, 2, 3, nil}, {3, 2, 1, 3, list(0, 0)}, {3, 1, 0, 3, nil}, {3, 0, 1, 3, list(0, 0)}, {3, 0, 0, 3, list(0, 0)}, {3, 5, 5, 3, list(0, 0)},
		{6, 1, 2, 3, list(3, 0)}, {6, 2, 1, 3, nil}, {6, 1, 0, 3, list(3, 0)}, {6, 0, 1, 3, nil}, {6, 0, 0, 3, nil}, {6, 5, 5, 3, nil},
		{2, 1, 2, 2, nil}, {2, 2, 1, 2, nil}, {4, 1, 2, 3, list(1, 0)}, {4, 2, 1, 3, list(1, 0)}, {5, 1, 2, 3, list(2, 0)}, {5, 2, 1, 3, list(2, 0)}, {7, 1, 2, 4, nil}, {7, 2, 1, 4, nil}, {0, 0, 0, 0, nil}, {9, 0, 0, 6, nil},
	} {
		a, b := insertion(two, x.num, x.p, "xy"), insertion(one, x.num2, 3, "abc")
		free, lost, err := excl.Tear(a, b, 6)
		if !alike(free, insertion(two, x.num, x.want, "xy")) || !same(lost, x.lost) || err != api.OK {
			t.Errorf("Tear(%v, %v, 6): %v, %v, %d", a, b, free, lost, err)
		}
		want, wantErr := free, api.OK
		if len(x.lost) > 0 {
			want, wantErr = api.Op{}, api.ErrLost
		}
		if out, err := excl.Excl(a, b, 6); !alike(out, want) || err != wantErr {
			t.Errorf("Excl(%v, %v, 6): %v, %d", a, b, out, err)
		}
	}
}

// P10.1, P10.3: deletions behind an insertion of three cells at 2, upon 6, as they are written out.
func TestDeletions(t *testing.T) {
	for _, x := range []struct {
		l, free, lost []api.Span
	}{
		// None of the cells.
		{nil, nil, nil}, {[]api.Span{}, nil, nil}, {list(0, 2), list(0, 2), nil}, {list(0, 1), list(0, 1), nil}, {list(1, 1), list(1, 1), nil}, {list(5, 1), list(2, 1), nil}, {list(5, 4), list(2, 4), nil}, {list(8, 1), list(5, 1), nil}, {list(6, 2), list(3, 2), nil}, {list(0, 1, 6, 2), list(0, 1, 3, 2), nil}, {list(5, 1, 7, 2), list(2, 1, 4, 2), nil},
		// Behind them and ahead of them, right at them: it comes to be one span.
		{list(0, 2, 5, 4), list(0, 6), nil}, {list(1, 1, 5, 1), list(1, 2), nil}, {list(1, 1, 5, 1, 8, 1), list(1, 2, 5, 1), nil}, {list(0, 1, 5, 1), list(0, 1, 2, 1), nil}, {list(1, 1, 6, 1), list(1, 1, 3, 1), nil},
		// Some of the cells, and all of them.
		{list(2, 3), nil, list(0, 3)}, {list(2, 1), nil, list(0, 1)}, {list(3, 1), nil, list(1, 1)}, {list(4, 1), nil, list(2, 1)}, {list(2, 2), nil, list(0, 2)}, {list(3, 2), nil, list(1, 2)}, {list(2, 1, 4, 1), nil, list(0, 1, 2, 1)},
		// Around them on one side, and on both.
		{list(1, 2), list(1, 1), list(0, 1)}, {list(1, 4), list(1, 1), list(0, 3)}, {list(0, 4), list(0, 2), list(0, 2)}, {list(4, 2), list(2, 1), list(2, 1)}, {list(2, 4), list(2, 1), list(0, 3)}, {list(3, 6), list(2, 4), list(1, 2)}, {list(0, 9), list(0, 6), list(0, 3)}, {list(1, 5), list(1, 2), list(0, 3)}, {list(1, 7), list(1, 4), list(0, 3)},
		// Several parts.
		{list(0, 3, 4, 1, 6, 3), list(0, 2, 3, 3), list(0, 1, 2, 1)}, {list(1, 1, 3, 1, 5, 1), list(1, 2), list(1, 1)}, {list(0, 1, 3, 2, 7, 1), list(0, 1, 4, 1), list(1, 2)}, {list(1, 2, 4, 2), list(1, 2), list(0, 1, 2, 1)}, {list(0, 1, 2, 1, 4, 1, 6, 1, 8, 1), list(0, 1, 3, 1, 5, 1), list(0, 1, 2, 1)}, {list(0, 1, 2, 3, 8, 1), list(0, 1, 5, 1), list(0, 3)}, {list(0, 4, 8, 1), list(0, 2, 5, 1), list(0, 2)},
	} {
		// Which of them is before the other one is all the same.
		for _, num := range []int{0, 1, 2, 3} {
			a, b := deletion(name(1, 2), num), insertion(name(1, 3), 2, 2, "a\u00e9\U0001f642")
			a.Spans = x.l
			want := deletion(name(1, 2), num)
			want.Spans = x.free
			if free, lost, err := excl.Tear(a, b, 6); !alike(free, want) || !same(lost, x.lost) || err != api.OK {
				t.Errorf("Tear(%v, %v, 6): %v, %v, %d", a, b, free, lost, err)
			}
			if got, err := excl.Mend(want, x.lost, b, 6); !alike(got, a) || err != api.OK {
				t.Errorf("Mend(%v, %v, %v, 6): %v, %d", want, x.lost, b, got, err)
			}
			wantErr := api.OK
			if len(x.lost) > 0 {
				want, wantErr = api.Op{}, api.ErrLost
			}
			if out, err := excl.Excl(a, b, 6); !alike(out, want) || err != wantErr {
				t.Errorf("Excl(%v, %v, 6): %v, %d", a, b, out, err)
			}
		}
	}
}

// P10.1, P10.2, P10.3: behind a deletion all is as it was, and nothing hangs on it: at its cells, ahead of them, behind them.
func TestBehindDeletions(t *testing.T) {
	for _, numbers := range [][]int{{}, {0, 7}, {0, 1}, {6, 1}, {2, 3}, {1, 1, 3, 1, 5, 2}} {
		b := deletion(name(4, 4), 2, numbers...)
		for _, a := range slices.Concat(upon(name(4, 3), 7, 0, 1, 3), upon(name(5, 1), 7, 2)) {
			if got, err := excl.Excl(a, b, 7); !alike(got, a) || err != api.OK {
				t.Fatalf("%v without %v: %v, %d", a, b, got, err)
			}
			if free, lost, err := excl.Tear(a, b, 7); !alike(free, a) || len(lost) > 0 || err != api.OK {
				t.Fatalf("%v, torn from %v: %v, %v, %d", a, b, free, lost, err)
			}
			first, second, err := excl.Swap(b, a, 7)
			if !alike(first, a) || !alike(second, behind(b, a)) || err != api.OK {
				t.Fatalf("Swap(%v, %v): %v, %v, %d", b, a, first, second, err)
			}
			for _, lost := range [][]api.Span{list(0, 0), list(1, 0), list(0, 1), list(2, 3)} {
				noMend(t, a, lost, b, 7)
			}
		}
	}
}

// P10.2: as they are written out: upon 6, the first, the second, and what comes of them.
func TestSwap(t *testing.T) {
	one, two := name(1, 1), name(2, 1)
	for _, x := range []struct{ a, b, first, second api.Op }{
		{insertion(one, 1, 2, "abc"), insertion(two, 2, 1, "xy"), insertion(two, 2, 1, "xy"), insertion(one, 1, 4, "abc")},
		{insertion(one, 1, 2, "abc"), insertion(two, 2, 5, "xy"), insertion(two, 2, 2, "xy"), insertion(one, 1, 2, "abc")},
		{insertion(one, 2, 2, "abc"), insertion(two, 1, 2, "xy"), insertion(two, 1, 2, "xy"), insertion(one, 2, 4, "abc")},
		{insertion(one, 1, 2, "abc"), insertion(two, 2, 9, "xy"), insertion(two, 2, 6, "xy"), insertion(one, 1, 2, "abc")},
		{insertion(one, 1, 2, "abc"), deletion(two, 2, 0, 2, 5, 2), deletion(two, 2, 0, 4), insertion(one, 1, 2, "abc")},
		{insertion(one, 1, 2, "abc"), deletion(two, 2), deletion(two, 2), insertion(one, 1, 2, "abc")},
		{deletion(one, 1, 1, 4), insertion(two, 2, 2, "xy"), insertion(two, 2, 2, "xy"), deletion(one, 1, 1, 1, 4, 3)},
		{deletion(one, 1, 1, 4), insertion(two, 2, 0, "xy"), insertion(two, 2, 0, "xy"), deletion(one, 1, 3, 4)},
		{deletion(one, 1, 1, 4), deletion(two, 2, 0, 3), deletion(two, 2, 0, 3), deletion(one, 1, 1, 4)},
		{deletion(one, 1), deletion(two, 2), deletion(two, 2), deletion(one, 1)},
	} {
		if first, second, err := excl.Swap(x.a, x.b, 6); !alike(first, x.first) || !alike(second, x.second) || err != api.OK {
			t.Errorf("Swap(%v, %v): %v, %v, %d", x.a, x.b, first, second, err)
		}
	}
	for _, b := range []api.Op{insertion(two, 2, 3, "xy"), insertion(two, 2, 2, "xy"), insertion(two, 0, 4, "xy"), insertion(two, 1, 2, "xy"), insertion(name(1, 2), 0, 2, "xy"), deletion(two, 2, 2, 1), deletion(two, 0, 0, 3), deletion(two, 1, 4, 5)} {
		if first, second, err := excl.Swap(insertion(one, 1, 2, "abc"), b, 6); !alike(first, api.Op{}) || !alike(second, api.Op{}) || err != api.ErrLost {
			t.Errorf("Swap(.., %v): %v, %v, %d", b, first, second, err)
		}
	}
}

// P10.1 to P10.4: all pairs upon small sizes.
func TestSmall(t *testing.T) {
	for size := range 4 {
		for _, two := range twos {
			for _, b := range upon(two[1], size, 0, 1, 2) {
				for _, a := range upon(two[0], size+adds(b), 0, 1, 2) {
					holds(t, a, b, size)
				}
			}
		}
	}
}

// P10.1: what is taken out is just what comes to be so behind b; what hangs is what nothing comes to be.
func TestAllThatFits(t *testing.T) {
	for size := range 4 {
		for _, two := range twos[:4] {
			for _, b := range upon(two[1], size, 0, 1) {
				fit := map[string]api.Op{}
				for _, x := range upon(two[0], size, 0, 1) {
					// Among these are deletions of one Num alone.
					for _, num := range []int{0, 1} {
						x.Num = num
						fit[fmt.Sprint(behind(x, b))] = x
					}
				}
				for _, a := range upon(two[0], size+adds(b), 0, 1) {
					x, ok := fit[fmt.Sprint(a)]
					out, err := excl.Excl(a, b, size)
					if ok && (!alike(out, x) || err != api.OK) {
						t.Fatalf("%v without %v: %v, %d, not %v", a, b, out, err, x)
					}
					if !ok && (!alike(out, api.Op{}) || err != api.ErrLost) {
						t.Fatalf("%v without %v: %v, %d, and nothing fits", a, b, out, err)
					}
				}
			}
		}
	}
}

// P10.4: what was made to fit behind b (layer 9) is taken out again, and isn't torn.
func TestFitted(t *testing.T) {
	for size := range 5 {
		for _, two := range twos {
			for _, b := range upon(two[1], size, 0, 1, 2) {
				for _, a := range upon(two[0], size, 0, 1, 2) {
					op, err := incl.Incl(a, b, size)
					if err != api.OK {
						t.Fatalf("Incl(%v, %v, %d): %d", a, b, size, err)
					}
					if got, err := excl.Excl(op, b, size); !alike(got, a) || err != api.OK {
						t.Fatalf("%v behind %v, and without it: %v, %d", a, b, got, err)
					}
					if free, lost, err := excl.Tear(op, b, size); !alike(free, a) || len(lost) > 0 || err != api.OK {
						t.Fatalf("%v behind %v, and torn from it: %v, %v, %d", a, b, free, lost, err)
					}
					if got, err := excl.Mend(a, nil, b, size); !alike(got, op) || err != api.OK {
						t.Fatalf("%v behind %v: mended to %v, %d", a, b, got, err)
					}
				}
			}
		}
	}
}

// losts are lost parts, such as may be of n cells and such as may not.
func losts(n int) [][]api.Span {
	l := append(subsets(n+1), []api.Span{})
	for from := -2; from <= n+2; from++ {
		l = append(l, list(from, 0), list(from, -1), list(from, 0, from, 0), list(from, 0, from+1, 1), list(0, 1, from, 0), list(from, 1, from, 1), list(from, 2, from+1, 2), list(from, 1, from+1, 1), list(from, n+1), list(1, 1, from, 1), list(from, math.MaxInt), list(from, math.MinInt))
	}
	return append(l, list(math.MaxInt, 0), list(math.MinInt, 0), list(math.MaxInt, 1), list(math.MinInt, 1), list(math.MaxInt, math.MaxInt), list(math.MinInt, math.MinInt), list(maxCells, 0), list(maxCells, 1), list(maxCells-1, 1), list(0, maxCells), list(0, maxCells+1), list(0, 1, math.MaxInt, 1), list(0, 0, 1, 1), list(0, 0, 0, 0))
}

// P10.3: of all pairs of parts those, and no others, are mended that something is torn into.
func TestMend(t *testing.T) {
	for size := range 3 {
		for _, two := range twos[:4] {
			for _, b := range upon(two[1], size, 0, 1) {
				whole := map[string]api.Op{}
				for _, a := range upon(two[0], size+adds(b), 0, 1) {
					for _, num := range []int{0, 1} {
						a.Num = num
						free, lost := torn(a, b)
						whole[fmt.Sprint(free, lost)] = a
					}
				}
				// Free parts upon a greater size are of nothing.
				for _, free := range upon(two[0], size+1, 0, 1) {
					for _, lost := range losts(adds(b)) {
						a, ok := whole[fmt.Sprint(free, lost)]
						got, err := excl.Mend(free, lost, b, size)
						if ok && (!alike(got, a) || err != api.OK) {
							t.Fatalf("Mend(%v, %v, %v, %d): %v, %d, not %v", free, lost, b, size, got, err, a)
						}
						if !ok && (!alike(got, api.Op{}) || err != api.ErrArg) {
							t.Fatalf("Mend(%v, %v, %v, %d): %v, %d, and nothing is torn so", free, lost, b, size, got, err)
						}
					}
				}
			}
		}
	}
}

// P10.3: what may not be mended, as it is written out.
func TestNoMend(t *testing.T) {
	ins, b := insertion(name(2, 1), 2, 3, "xy"), insertion(name(1, 1), 1, 3, "abc")
	del := deletion(name(2, 1), 2, 1, 4)
	for _, lost := range [][]api.Span{
		list(1, 1, 0, 1), list(2, 1, 0, 1), list(0, 2, 1, 2), list(0, 1, 0, 1), list(0, 3, 1, 1), list(0, 1, 1, 1), list(0, 1, 1, 2), list(0, 2, 2, 1), list(3, 1), list(0, 4), list(2, 2), list(0, 1, 3, 1), list(-1, 1), list(-1, 2), list(0, -1), list(1, -1), list(2, math.MinInt), list(0, 1, 2, -1),
		list(0, 0), list(1, 0), list(3, 0), list(0, 0, 1, 1), list(0, 1, 2, 0), list(0, 0, 0, 0), list(0, 1, 1, 0, 2, 1), list(math.MaxInt, 1), list(1, math.MaxInt), list(math.MaxInt, math.MaxInt), list(math.MinInt, 1), list(-3, 3), list(-2, 1), list(maxCells-3, 1), list(maxCells, 1), list(0, maxCells),
	} {
		noMend(t, del, lost, b, 6)
	}
	for _, lost := range [][]api.Span{
		list(0, 1), list(1, 1), list(0, 3), list(3, 1), list(2, -1), list(2, math.MinInt), list(2, math.MaxInt), list(0, 0, 0, 0), list(1, 0, 2, 0), list(2, 0, 1, 1), list(0, 1, 2, 0), list(2, 0, 0, 1),
		list(-1, 0), list(-3, 0), list(-4, 0), list(3, 0), list(4, 0), list(6, 0), list(math.MaxInt, 0), list(math.MinInt, 0), list(math.MaxInt-3, 0), list(maxCells, 0),
	} {
		noMend(t, ins, lost, b, 6)
	}
	// An insertion that hangs on b is free right at q, whichever is before the other one; right at an end only one of them hangs.
	for _, at := range []int{0, 2, 4, 6} {
		for _, from := range []int{0, 1, 2, 3} {
			noMend(t, insertion(name(2, 1), 2, at, "xy"), list(from, 0), b, 6)
			noMend(t, insertion(name(2, 1), 0, at, "xy"), list(from, 0), insertion(name(3, 1), 0, 3, "abc"), 6)
		}
	}
	first := insertion(name(2, 1), 1, 3, "xy")
	after := insertion(name(1, 1), 2, 3, "abc")
	noMend(t, ins, list(3, 0), b, 6)
	noMend(t, first, list(0, 0), after, 6)
	for _, x := range []struct {
		free api.Op
		from int
		b    api.Op
		at   int
	}{{ins, 0, b, 3}, {ins, 1, b, 4}, {ins, 2, b, 5}, {first, 1, after, 4}, {first, 2, after, 5}, {first, 3, after, 6}} {
		want := x.free
		want.At = x.at
		if got, err := excl.Mend(x.free, list(x.from, 0), x.b, 6); !alike(got, want) || err != api.OK {
			t.Errorf("Mend(%v, %d 0, %v, 6): %v, %d", x.free, x.from, x.b, got, err)
		}
	}
	if got, err := excl.Mend(ins, nil, b, 6); got.At != 6 || err != api.OK {
		t.Error(got, err)
	}
	if got, err := excl.Mend(first, nil, after, 6); got.At != 3 || err != api.OK {
		t.Error(got, err)
	}
	if got, err := excl.Mend(del, list(0, 1, 2, 1), b, 6); !alike(got, deletion(name(2, 1), 2, 1, 3, 5, 3)) || err != api.OK {
		t.Error(got, err)
	}
}

// about are operations of a name upon a great size: at its ends, and about the cells from q on, up to an end, that stand there.
func about(n api.Name, size, q, to int) []api.Op {
	var l []api.Op
	for i, text := range []string{"a", "ab", strings.Repeat("\U0001f642", 199), strings.Repeat("\u00e9", 200)} {
		for k, at := range []int{0, q - 1, q, q + 1, (q + to) / 2, to - 1, to, to + 1, size - 1, size, size + 1} {
			l = append(l, insertion(n, (i+k)%3, at, text))
		}
	}
	for i, numbers := range [][]int{{}, {0, size}, {0, size + 1}, {0, q}, {q, to - q}, {to, size - to}, {q, size - q}, {0, to}, {q - 1, 1}, {q - 1, 2}, {to - 1, 1}, {to - 1, 2}, {to, 1}, {q, 1, to - 1, 1}, {q - 1, 1, to, 1}, {q - 1, 2, to - 1, 2}, {0, 1, q + 1, 1, size - 1, 1}, {0, q, to, size - to}} {
		l = append(l, deletion(n, i%3, numbers...))
	}
	for _, set := range [][]api.Span{each(0, size), each(1, size), each(q-9, to+9), each(q, size)} {
		op := deletion(n, 1)
		op.Spans = set
		l = append(l, op)
	}
	return l
}

// P10.1 to P10.4: all pairs upon great sizes: what b leaves is less than MaxCells, just as much, and more.
func TestGreat(t *testing.T) {
	for i, n := range []int{1, 2, 199, 200} {
		for _, size := range []int{9999, maxCells - 2*n - 200, maxCells - n - 200, maxCells - n - 199, maxCells - n - 2, maxCells - n - 1, maxCells - n, maxCells - n + 1} {
			for _, q := range []int{0, 1, 5000, size - 1, size} {
				two := twos[i]
				b := insertion(two[1], i%3, q, strings.Repeat("\u20ac", n))
				for k, a := range about(two[0], size+n, q, q+n) {
					// All of the long lists take long, and tell no more than some.
					if len(a.Spans) < 1000 || k%4 == size%4 {
						holds(t, a, b, size)
					}
				}
			}
		}
	}
}

// sizes are such as may be, and such as may not be.
var sizes = []int{math.MinInt, -maxCells, -1, 0, 1, 2, 9, 10, maxCells - 2, maxCells - 1, maxCells, maxCells + 1, 2 * maxCells, maxNum, math.MaxInt - 200, math.MaxInt}

// P10.1 to P10.4: upon deletions of great sizes, and upon all sizes.
func TestSizes(t *testing.T) {
	bs := []api.Op{deletion(name(1, 1), 0), deletion(name(1, 1), 0, 0, 1), deletion(name(1, 1), 1, 0, maxCells), deletion(name(1, 1), 1, 1, 4000, 19999, 1), deletion(name(1, 1), 1, 0, 9), insertion(name(1, 1), 1, 0, "a"), insertion(name(1, 1), 1, 9, "ab"), insertion(name(1, 1), 1, maxCells-1, "\u20ac"), insertion(name(1, 1), 1, maxCells, "\u20ac")}
	for _, size := range sizes {
		for i, b := range bs {
			for _, q := range []int{0, 1, 9, maxCells - 3} {
				for k, a := range about(name(1, 2), min(max(size, 10), maxCells), q, q+2) {
					if len(a.Spans) < 1000 || (k+i)%4 == 0 {
						holds(t, a, b, size)
					}
				}
			}
		}
	}
}

// Sizes of 0 and of MaxCells, as they are written out.
func TestSizesAsWritten(t *testing.T) {
	one, two := name(1, 1), name(2, 1)
	none, del := deletion(one, 1), deletion(two, 2, 0, maxCells)
	if first, second, err := excl.Swap(none, del, maxCells); !alike(first, del) || !alike(second, none) || err != api.OK {
		t.Error(first, second, err)
	}
	refused(t, insertion(two, 2, 0, "a"), none, maxCells)
	refused(t, del, none, maxCells-1)
	refused(t, none, insertion(two, 2, 0, "a"), maxCells)
	if out, err := excl.Excl(insertion(two, 2, 0, "a"), none, 0); out.At != 0 || out.Text != "a" || err != api.OK {
		t.Error(out, err)
	}
	refused(t, insertion(two, 2, 1, "a"), none, 0)
	b := insertion(one, 1, 0, strings.Repeat("b", 200))
	if out, err := excl.Excl(insertion(two, 2, 200, "a"), b, 0); !alike(out, insertion(two, 2, 0, "a")) || err != api.OK {
		t.Error(out, err)
	}
	refused(t, insertion(two, 2, 201, "a"), b, 0)
	if free, lost, err := excl.Tear(deletion(two, 2, 0, 200), b, 0); !alike(free, deletion(two, 2)) || !same(lost, list(0, 200)) || err != api.OK {
		t.Error(free, lost, err)
	}
	refused(t, deletion(two, 2, 0, 201), b, 0)
	// b leaves as many as there may be: nothing is inserted any more, and all of them are deleted.
	if free, lost, err := excl.Tear(del, b, maxCells-200); !alike(free, deletion(two, 2, 0, maxCells-200)) || !same(lost, list(0, 200)) || err != api.OK {
		t.Error(free, lost, err)
	}
	refused(t, insertion(two, 2, 200, "a"), b, maxCells-200)
	refused(t, deletion(two, 2), b, maxCells-199)
}

// P10.2: two that just may be upon a document, one behind the other, are swapped; one cell more, and neither was behind the other one.
func TestSwapFits(t *testing.T) {
	lengths := []int{1, 2, 7, 100, 199, 200}
	for _, n := range lengths {
		for _, m := range lengths {
			size := maxCells - n - m
			for _, at := range [][2]int{{0, n}, {5, 0}, {size, 0}, {0, size + n}, {size, size + n}, {7, 7 + n}} {
				a, b := insertion(name(1, 1), 3, at[0], strings.Repeat("\u20ac", n)), insertion(name(2, 1), 5, at[1], strings.Repeat("\U0001f642", m))
				first, second, err := excl.Swap(a, b, size)
				if first.Text != b.Text || second.Text != a.Text || err != api.OK {
					t.Errorf("%d ahead of %d: %v, %v, %d", n, m, short(first), short(second), err)
				}
				holds(t, b, a, size)
				holds(t, b, a, size-1)
				refused(t, b, a, size+1)
			}
			noMend(t, insertion(name(2, 1), 5, 0, strings.Repeat("x", m)), nil, insertion(name(1, 1), 3, 9, strings.Repeat("y", n)), size+1)
			noMend(t, insertion(name(2, 1), 5, 9, strings.Repeat("x", m)), list(0, 0), insertion(name(1, 1), 3, 9, strings.Repeat("y", n)), size+1)
			if op, err := excl.Mend(insertion(name(2, 1), 5, 9, strings.Repeat("x", m)), list(0, 0), insertion(name(1, 1), 3, 9, strings.Repeat("y", n)), size); op.At != 9 || err != api.OK {
				t.Error(n, m, short(op), err)
			}
		}
	}
}

// changes make an operation one that may not be, or one of another kind; some leave it so that it may be.
var changes = []func(op *api.Op){
	func(op *api.Op) {},
	func(op *api.Op) { *op = api.Op{} },
	func(op *api.Op) { op.Kind = 0 }, func(op *api.Op) { op.Kind = 3 }, func(op *api.Op) { op.Kind = -1 }, func(op *api.Op) { op.Kind = 257 }, func(op *api.Op) { op.Kind = math.MinInt }, func(op *api.Op) { op.Kind = math.MaxInt }, func(op *api.Op) { op.Kind = 3 - op.Kind },
	func(op *api.Op) { op.Name.Site = 0 }, func(op *api.Op) { op.Name.Site = -1 }, func(op *api.Op) { op.Name.Site = maxSites }, func(op *api.Op) { op.Name.Site = maxSites + 1 }, func(op *api.Op) { op.Name.Site = math.MinInt },
	func(op *api.Op) { op.Name.Seq = 0 }, func(op *api.Op) { op.Name.Seq = -1 }, func(op *api.Op) { op.Name.Seq = maxNum }, func(op *api.Op) { op.Name.Seq = maxNum + 1 }, func(op *api.Op) { op.Name.Seq = math.MaxInt },
	func(op *api.Op) { op.Num = -1 }, func(op *api.Op) { op.Num = maxNum }, func(op *api.Op) { op.Num = maxNum + 1 }, func(op *api.Op) { op.Num = math.MinInt }, func(op *api.Op) { op.Num = math.MaxInt },
	func(op *api.Op) { op.At = -1 }, func(op *api.Op) { op.At = 1 }, func(op *api.Op) { op.At = 9 }, func(op *api.Op) { op.At = 10 }, func(op *api.Op) { op.At = 11 }, func(op *api.Op) { op.At = 12 }, func(op *api.Op) { op.At = math.MinInt }, func(op *api.Op) { op.At = math.MaxInt },
	func(op *api.Op) { op.Text = "" }, func(op *api.Op) { op.Text = "x" }, func(op *api.Op) { op.Text = "\xff" }, func(op *api.Op) { op.Text = "a\xed\xa0\x80" }, func(op *api.Op) { op.Text = strings.Repeat("\u20ac", 200) }, func(op *api.Op) { op.Text = strings.Repeat("x", 201) },
	func(op *api.Op) { op.Spans = nil }, func(op *api.Op) { op.Spans = []api.Span{} }, func(op *api.Op) { op.Spans = list(0, 9) }, func(op *api.Op) { op.Spans = list(0, 11) }, func(op *api.Op) { op.Spans = list(0, 12) }, func(op *api.Op) { op.Spans = list(9, 1) }, func(op *api.Op) { op.Spans = list(2, 0) }, func(op *api.Op) { op.Spans = list(2, -1) }, func(op *api.Op) { op.Spans = list(-1, 2) }, func(op *api.Op) { op.Spans = list(1, 2, 3, 1) }, func(op *api.Op) { op.Spans = list(3, 1, 1, 1) }, func(op *api.Op) { op.Spans = list(1, math.MaxInt) }, func(op *api.Op) { op.Spans = list(math.MaxInt, 1) },
}

// P10.1 to P10.3: operations that may not be, either one and both.
func TestWrong(t *testing.T) {
	var l []api.Op
	for _, op := range []api.Op{insertion(name(1, 1), 3, 4, "ab"), deletion(name(1, 1), 3, 1, 2, 5, 1)} {
		for _, change := range changes {
			x := op
			change(&x)
			l = append(l, x)
		}
	}
	for _, a := range l {
		for _, b := range l {
			b.Name.Seq++
			for _, size := range []int{-1, 8, 9, 10, maxCells - 4, maxCells - 2, maxCells, maxCells + 1} {
				holds(t, a, b, size)
				// A free part is one upon the size ahead of b.
				free := mayUpon(a, size) && isBehind(behind(a, b), b, size)
				for _, lost := range [][]api.Span{nil, list(0, 0), list(1, 0), list(0, 1), list(0, -1), list(math.MaxInt, math.MaxInt)} {
					op, err := excl.Mend(a, lost, b, size)
					if err != api.OK && (err != api.ErrArg || !alike(op, api.Op{})) || err == api.OK && !free {
						t.Fatalf("Mend(%v, %v, %v, %d): %v, %d", short(a), lost, short(b), size, short(op), err)
					}
				}
			}
		}
	}
}

// P10.1 to P10.3: as they are written out: the one, the other, and neither may be.
func TestWrongAsWritten(t *testing.T) {
	ins, del, none := insertion(name(1, 1), 0, 2, "ab"), deletion(name(2, 1), 0, 1, 2), api.Op{Name: name(3, 1)}
	other := insertion(name(4, 1), 0, 0, "xyz")
	wrong := del
	wrong.Kind = 3
	for _, x := range []struct {
		a, b api.Op
		size int
	}{
		{ins, none, 5}, {none, ins, 5}, {del, none, 5}, {none, del, 5}, {none, none, 5}, {none, api.Op{Name: name(4, 1)}, 5}, {ins, wrong, 5}, {wrong, ins, 5}, {api.Op{}, api.Op{}, 0},
		// b may not be upon the size, though upon what a leaves.
		{ins, del, 2}, {del, ins, 1}, {other, ins, 1}, {ins, del, -1}, {del, ins, -1}, {ins, del, maxCells + 1}, {del, ins, maxCells + 1}, {del, ins, maxCells - 1}, {del, ins, maxCells}, {del, ins, math.MaxInt}, {del, ins, math.MinInt},
		// a may not be upon what b leaves, though upon the size.
		{ins, del, maxCells - 1}, {ins, other, maxCells - 4}, {other, ins, maxCells - 4}, {insertion(name(1, 1), 0, 6, "ab"), del, 5}, {insertion(name(1, 1), 0, 9, "ab"), other, 5}, {deletion(name(1, 1), 0, 5, 1), del, 5}, {deletion(name(1, 1), 0, 8, 1), other, 5}, {deletion(name(1, 1), 0, 0, 9), other, 5},
		// Two of one name, whatever else they are.
		{ins, ins, 5}, {del, del, 5}, {insertion(name(2, 1), 0, 2, "ab"), del, 5}, {deletion(name(1, 1), 0, 1, 2), ins, 5}, {insertion(name(1, 1), 7, 3, "ab"), ins, 5},
	} {
		refused(t, x.a, x.b, x.size)
	}
	for _, x := range []struct {
		free api.Op
		lost []api.Span
		b    api.Op
		size int
	}{
		{none, nil, ins, 5}, {ins, nil, none, 5}, {wrong, nil, ins, 5}, {wrong, list(0, 1), ins, 5}, {del, list(0, 1), wrong, 5}, {ins, nil, ins, 5}, {del, nil, del, 5}, {insertion(name(1, 1), 7, 2, "xy"), list(1, 0), ins, 5},
		{del, nil, ins, 1}, {del, nil, ins, -1}, {del, nil, ins, maxCells - 1}, {del, nil, ins, maxCells + 1}, {other, nil, ins, maxCells - 4}, {insertion(name(3, 1), 0, 6, "x"), nil, ins, 5}, {deletion(name(3, 1), 0, 4, 2), nil, ins, 5}, {insertion(name(3, 1), 0, -1, "x"), nil, ins, 5}, {insertion(name(3, 1), 0, 2, ""), list(1, 0), ins, 5}, {insertion(name(3, 1), 0, 2, "\xff"), list(1, 0), ins, 5},
		{api.Op{Name: name(3, 1), Kind: api.Del, Spans: list(2, 1, 0, 1)}, list(0, 1), ins, 5}, {api.Op{Name: name(3, 1), Kind: api.Del, Spans: list(0, 1, 1, 1)}, list(0, 1), ins, 5}, {api.Op{Name: name(3, 1), Kind: api.Del, At: 2}, list(0, 1), ins, 5}, {api.Op{Name: name(3, 1), Kind: api.Ins, At: 2, Text: "x", Spans: list(0, 1)}, list(1, 0), ins, 5},
	} {
		noMend(t, x.free, x.lost, x.b, x.size)
	}
	// Names of which the site, or the Seq, alone is alike are unlike.
	for _, n := range []api.Name{name(1, 2), name(2, 1)} {
		if _, err := excl.Excl(insertion(n, 1, 0, "x"), ins, 5); err != api.OK {
			t.Error(n, err)
		}
	}
}

// P10.1 to P10.3: two of one name, alike or not in all else.
func TestNames(t *testing.T) {
	for _, n := range []api.Name{name(1, 1), name(3, 7), name(16, maxNum)} {
		for _, b := range upon(n, 2, 0, 1, 2) {
			for _, a := range upon(n, 2+adds(b), 0, 1, 2) {
				refused(t, a, b, 2)
			}
			for _, free := range upon(n, 2, 0, 1) {
				noMend(t, free, nil, b, 2)
				noMend(t, free, list(0, 0), b, 2)
				noMend(t, free, list(0, 1), b, 2)
			}
		}
	}
}

// without is a document without the cells of a name.
func without(doc []api.Cell, n api.Name) []api.Cell {
	return slices.DeleteFunc(slices.Clone(doc), func(c api.Cell) bool { return c.Name == n })
}

// byCells checks of a behind b, upon a document of cells: what is free does there what a does to all but b's cells, what is lost is what it does among these, and two that are swapped leave the same cells.
func byCells(t *testing.T, doc []api.Cell, a, b api.Op) {
	t.Helper()
	size := len(doc)
	both := play(doc, b, a)
	free, lost, err := excl.Tear(a, b, size)
	if err != api.OK {
		t.Fatalf("Tear(%v, %v, %d): %d", short(a), short(b), size, err)
	}
	got, want := play(doc, free), without(both, b.Name)
	if b.Kind == 2 {
		got, want = play(got, behind(b, free)), both
	}
	if !slices.Equal(got, want) {
		t.Fatalf("%v, torn from %v upon %d: %v", short(a), short(b), size, short(free))
	}
	if want := lostByCells(both, a, b); !same(lost, want) {
		t.Fatalf("%v, torn from %v upon %d: %v, not %v", short(a), short(b), size, lost, want)
	}
	first, second, err := excl.Swap(b, a, size)
	if len(lost) > 0 {
		if err != api.ErrLost {
			t.Fatalf("Swap(%v, %v, %d): %d", short(b), short(a), size, err)
		}
		return
	}
	if got := play(doc, first, second); err != api.OK || !slices.Equal(got, both) {
		t.Fatalf("Swap(%v, %v, %d): %v, %v, %d, which leave %v", short(b), short(a), size, short(first), short(second), err, got[:min(len(got), 20)])
	}
}

// lostByCells tells the lost part of a from the cells that b and a leave: which of b's cells are gone, or how many of them stand ahead of a's, unless they do so by the order of the two.
func lostByCells(both []api.Cell, a, b api.Op) []api.Span {
	var lost []api.Span
	ahead := 0
	for _, c := range both {
		switch c.Name {
		case a.Name:
			byOrder := ahead == 0 && before(a, b) || ahead == adds(b) && before(b, a)
			if a.At-ahead != b.At || byOrder {
				return nil
			}
			return list(ahead, 0)
		case b.Name:
			ahead++
			if c.Gone {
				lost = model.With(lost, c.Off)
			}
		}
	}
	return lost
}

// P10.3, P10.4: all pairs upon small documents.
func TestByCells(t *testing.T) {
	for size := range 4 {
		doc := blank(size)
		if size == 3 {
			doc[1].Gone = true
		}
		for _, two := range twos {
			for _, b := range upon(two[1], size, 0, 1, 2) {
				for _, a := range upon(two[0], size+adds(b), 0, 1, 2) {
					byCells(t, doc, a, b)
				}
			}
		}
	}
}

// P10.1 to P10.4: pairs upon greater documents, some cells of which are gone.
func TestMany(t *testing.T) {
	r := rand.New(rand.NewSource(10))
	for i := range 6000 {
		size := []int{1, 10, 100, 1000}[i%4] + r.Intn(9)
		if i%100 == 0 {
			size = maxCells - 400 + r.Intn(3)
		}
		doc := blank(size)
		for range r.Intn(9) {
			doc[r.Intn(size)].Gone = true
		}
		two := twos[i%len(twos)]
		b := model.Picked(r.Intn, two[1], size)
		a := model.Picked(r.Intn, two[0], size+adds(b), b.At, b.At+adds(b)/2, b.At+adds(b))
		holds(t, a, b, size)
		if isBehind(a, b, size) {
			byCells(t, doc, a, b)
		}
	}
}

// within tells whether a text's bytes are some of those of another one, in memory.
func within(part, whole string) bool {
	at, from := uintptr(unsafe.Pointer(unsafe.StringData(part))), uintptr(unsafe.Pointer(unsafe.StringData(whole)))
	return part != "" && from <= at && at < from+uintptr(len(whole))
}

// roomy tells a list with spare room behind it, that is filled.
func roomy(l []api.Span) []api.Span {
	return append(slices.Clone(l), list(-77, -77, -77, -77, -77, -77)...)[:len(l)]
}

// unshared checks that no two of operations share memory.
func unshared(t *testing.T, l []api.Op) {
	t.Helper()
	for i, one := range l {
		for _, other := range l[i+1:] {
			if model.Shared(one.Spans, other.Spans) || within(one.Text, other.Text) || within(other.Text, one.Text) {
				t.Errorf("%v shares memory with %v", one, other)
			}
		}
	}
}

// Rule 5: what is handed in is not changed, its spare room neither, and what is told shares no memory with it, nor with what else is told.
func TestMemory(t *testing.T) {
	long := strings.Repeat("body", 20)
	for _, a := range []api.Op{insertion(name(1, 1), 3, 4, long), insertion(name(1, 1), 3, 0, long), insertion(name(1, 1), 3, 9, long), deletion(name(1, 1), 3, 1, 2, 5, 1), deletion(name(1, 1), 3, 0, 9), deletion(name(1, 1), 3, 0, 1), deletion(name(1, 1), 3, 0, 1, 2, 1, 4, 1, 6, 1, 8, 1), deletion(name(1, 1), 3, 0, 3, 4, 1, 6, 3), deletion(name(1, 1), 3, 8, 1), deletion(name(1, 1), 3)} {
		for _, b := range []api.Op{insertion(name(2, 1), 3, 4, long+"b"), insertion(name(2, 1), 1, 2, "\u00e9xy"), insertion(name(2, 1), 3, 9, long+"b"), insertion(name(2, 1), 3, 0, long+"b"), deletion(name(2, 1), 3, 1, 2, 5, 1), deletion(name(2, 1), 3)} {
			a.Spans, b.Spans = roomy(a.Spans), roomy(b.Spans)
			wasA, wasB := slices.Clone(a.Spans[:cap(a.Spans)]), slices.Clone(b.Spans[:cap(b.Spans)])
			out, _ := excl.Excl(a, b, 9)
			one, two, _ := excl.Swap(b, a, 9)
			free, lost, err := excl.Tear(a, b, 9)
			if err != api.OK {
				t.Fatal(a, b, err)
			}
			handed := roomy(lost)
			wasLost := slices.Clone(handed[:cap(handed)])
			free.Spans = roomy(free.Spans)
			wasFree := slices.Clone(free.Spans[:cap(free.Spans)])
			again, err := excl.Mend(free, handed, b, 9)
			if !alike(again, a) || err != api.OK {
				t.Error(free, lost, b, again, err)
			}
			for _, x := range []struct{ is, was []api.Span }{{a.Spans, wasA}, {b.Spans, wasB}, {free.Spans, wasFree}, {handed, wasLost}} {
				if !slices.Equal(x.is[:cap(x.is)], x.was) {
					t.Errorf("%v came to be %v", x.was, x.is[:cap(x.is)])
				}
			}
			unmade, _, _ := excl.Tear(a, b, 9)
			unshared(t, []api.Op{out, one, two, unmade, free, again, a, b, {Spans: lost}, {Spans: handed}})
		}
	}
}

// Rule 6: what a call answers hangs on its arguments alone, whatever was asked between, and told to hang.
func TestNothingElse(t *testing.T) {
	b, a := insertion(name(1, 1), 0, 2, "abc"), deletion(name(2, 1), 0, 1, 3)
	c := insertion(name(3, 1), 0, 5, "x")
	for range 3 {
		if op, err := excl.Excl(c, b, 5); !alike(op, insertion(name(3, 1), 0, 2, "x")) || err != api.OK {
			t.Error(op, err)
		}
		if free, lost, err := excl.Tear(a, b, 5); !alike(free, deletion(name(2, 1), 0, 1, 1)) || !same(lost, list(0, 2)) || err != api.OK {
			t.Error(free, lost, err)
		}
		excl.Excl(a, b, 5)
		excl.Excl(api.Op{}, b, -1)
		excl.Swap(b, a, 5)
		excl.Mend(a, list(0, 0), b, 5)
		if one, two, err := excl.Swap(b, c, 5); !alike(one, insertion(name(3, 1), 0, 2, "x")) || !alike(two, b) || err != api.OK {
			t.Error(one, two, err)
		}
	}
}

// Rule 4: nil and empty are one and the same.
func TestNilIsEmpty(t *testing.T) {
	for _, b := range []api.Op{insertion(name(2, 1), 0, 2, "cde"), deletion(name(2, 1), 0)} {
		for _, a := range []api.Op{insertion(name(1, 1), 1, 2, "ab"), insertion(name(1, 1), 1, 3, "ab"), deletion(name(1, 1), 0)} {
			emptyA, emptyB := a, b
			emptyA.Spans, emptyB.Spans = []api.Span{}, []api.Span{}
			one, first := excl.Excl(a, b, 5)
			if other, err := excl.Excl(emptyA, emptyB, 5); !alike(one, other) || err != first {
				t.Error(a, b, one, other, err)
			}
			free, lost, _ := excl.Tear(a, b, 5)
			other, lostToo, err := excl.Tear(emptyA, emptyB, 5)
			if !alike(free, other) || !same(lost, lostToo) || err != api.OK {
				t.Error(a, b, free, lost, other, lostToo, err)
			}
			free.Spans, lost = append([]api.Span{}, free.Spans...), append([]api.Span{}, lost...)
			if whole, err := excl.Mend(free, lost, emptyB, 5); !alike(whole, a) || err != api.OK {
				t.Error(free, lost, b, whole, err)
			}
		}
	}
}
