package caret_test

import (
	"math"
	"slices"
	"strings"
	"testing"

	"foolscap/api"
	"foolscap/caret"
	"foolscap/cells"
	"foolscap/model/hists"
)

// numbers are such as are no places and no sites anywhere.
var numbers = []int{math.MinInt, math.MinInt + 1, -1 << 32, -maxCells, -2, -1, maxCells + 1, 1<<31 - 1, 1 << 32, maxNum, math.MaxInt - 1, math.MaxInt}

// P16.1: May, each condition broken alone.
func TestMayNot(t *testing.T) {
	for _, size := range []int{0, 1, 2, 7, maxCells - 1, maxCells} {
		for _, m := range []caret.Mark{mark(1, 0, 0), mark(maxSites, 0, size), mark(2, size, 0), mark(3, size, size), mark(5, size/2, size/2)} {
			if !holdsMay(t, m, size) {
				t.Errorf("May(%v, %d): false", m, size)
			}
			broken := []caret.Mark{mark(0, m.At, m.To), mark(maxSites+1, m.At, m.To), mark(m.Site, -1, m.To), mark(m.Site, size+1, m.To), mark(m.Site, m.At, -1), mark(m.Site, m.At, size+1)}
			for _, n := range numbers {
				broken = append(broken, mark(n, m.At, m.To), mark(m.Site, n, m.To), mark(m.Site, m.At, n))
			}
			for _, b := range broken {
				if holdsMay(t, b, size) {
					t.Errorf("May(%v, %d): true", b, size)
				}
			}
		}
	}
	for _, size := range numbers {
		if holdsMay(t, mark(1, 0, 0), size) || holdsMay(t, mark(1, size, size), size) {
			t.Errorf("May(of the size %d): true", size)
		}
	}
	// A place may be upon the one size and not upon the one below it.
	if !holdsMay(t, mark(1, 3, 0), 3) || holdsMay(t, mark(1, 3, 0), 2) || holdsMay(t, mark(1, 0, 3), 2) || holdsMay(t, caret.Mark{}, 0) {
		t.Error("upon 3, or upon 2")
	}
}

// P16.1: what Put refuses, and what it tells where more than one is wrong.
func TestPutRefused(t *testing.T) {
	for l := range small(3) {
		d := docOf(t, l)
		live := seen(l, len(l))
		for _, n := range append([]int{live + 1}, numbers...) {
			for _, other := range []int{0, live, n, -1, live + 1} {
				for _, x := range []struct{ i, j int }{{n, other}, {other, n}} {
					if err := holdsPut(t, d, l, 1, x.i, x.j); err != api.ErrRange {
						t.Errorf("Put(%d, %d) of %d that are seen: %d", x.i, x.j, live, err)
					}
					// A site that is none goes ahead of it.
					for _, site := range []int{0, maxSites + 1} {
						if err := holdsPut(t, d, l, site, x.i, x.j); err != api.ErrArg {
							t.Errorf("Put(%d, %d, %d) of %d that are seen: %d", site, x.i, x.j, live, err)
						}
					}
				}
			}
		}
		for _, site := range append([]int{0, maxSites + 1}, numbers...) {
			if err := holdsPut(t, d, l, site, 0, live); err != api.ErrArg {
				t.Errorf("Put of the site %d: %d", site, err)
			}
		}
		for _, site := range []int{1, 2, maxSites - 1, maxSites} {
			if err := holdsPut(t, d, l, site, 0, live); err != api.OK {
				t.Errorf("Put of the site %d: %d", site, err)
			}
		}
	}
	for _, site := range append([]int{0, 1, maxSites, maxSites + 1}, numbers...) {
		for _, i := range []int{0, 1, -1, math.MaxInt} {
			if m, err := caret.Put(nil, site, i, i); m != (caret.Mark{}) || err != api.ErrArg {
				t.Errorf("Put(nil, %d, %d): %v, %d", site, i, m, err)
			}
		}
	}
}

// P16.1: what Shown refuses.
func TestShownRefused(t *testing.T) {
	for l := range small(3) {
		d := docOf(t, l)
		size := len(l)
		broken := []caret.Mark{{}, mark(0, 0, size), mark(maxSites+1, 0, size), mark(1, size+1, 0), mark(1, 0, size+1), mark(1, -1, size), mark(1, size, -1)}
		for _, n := range numbers {
			broken = append(broken, mark(n, 0, size), mark(1, n, 0), mark(1, 0, n), mark(n, n, n))
		}
		for _, m := range broken {
			if err := holdsShown(t, d, l, m); err != api.ErrArg {
				t.Errorf("Shown(%v) of %d cells: %d", m, size, err)
			}
		}
	}
	for _, m := range []caret.Mark{{}, mark(1, 0, 0), mark(1, 1, 0), mark(0, -1, 3)} {
		if i, j, err := caret.Shown(nil, m); i != 0 || j != 0 || err != api.ErrArg {
			t.Errorf("Shown(nil, %v): %d, %d, %d", m, i, j, err)
		}
	}
	var none *cells.Doc
	if i, j, err := caret.Shown(none, mark(1, 0, 0)); i != 0 || j != 0 || err != api.ErrArg {
		t.Error(i, j, err)
	}
}

// broken are operations that may not be upon a size, of which one condition each is broken, but for those that may not be upon any.
func broken(size int) []api.Op {
	ins, del := insertion(name(1, 1), 1, size, "ab"), deletion(name(1, 1), 1, 0, size)
	if size == 0 {
		del.Spans = nil
	}
	with := func(op api.Op, change func(*api.Op)) api.Op {
		change(&op)
		return op
	}
	var l []api.Op
	for _, op := range []api.Op{ins, del} {
		for _, n := range append([]int{0, maxSites + 1}, numbers...) {
			l = append(l, with(op, func(op *api.Op) { op.Name.Site = n }))
		}
		for _, n := range []int{math.MinInt, -1, 0, maxNum + 1, math.MaxInt} {
			l = append(l, with(op, func(op *api.Op) { op.Name.Seq = n }))
		}
		for _, n := range []int{math.MinInt, -1, maxNum + 1, math.MaxInt} {
			l = append(l, with(op, func(op *api.Op) { op.Num = n }))
		}
		for _, n := range []int{math.MinInt, -1, 0, 3, math.MaxInt} {
			l = append(l, with(op, func(op *api.Op) { op.Kind = n }))
		}
		l = append(l, with(op, func(op *api.Op) { op.At = size + 1 }), with(op, func(op *api.Op) { op.Spans = list(size, 1) }))
		for _, n := range numbers {
			l = append(l, with(op, func(op *api.Op) { op.At = n }), with(op, func(op *api.Op) { op.Spans = list(0, n) }), with(op, func(op *api.Op) { op.Spans = list(n, 1) }))
		}
	}
	for _, text := range []string{"", strings.Repeat("x", 201), strings.Repeat("\u20ac", 201), "\xff", "a\xe2\x82", "\xed\xa0\x80"} {
		l = append(l, with(ins, func(op *api.Op) { op.Text = text }))
	}
	l = append(l, with(ins, func(op *api.Op) { op.Spans = list(0, 1) }), with(del, func(op *api.Op) { op.Text = "x" }), with(del, func(op *api.Op) { op.At = 1 }))
	if size > 5 {
		for _, s := range [][]api.Span{list(1, 0), list(1, 1, 2, 1), list(3, 1, 1, 1), list(1, 2, 2, 1), list(1, -1), list(0, 1, size-1, 2)} {
			l = append(l, with(del, func(op *api.Op) { op.Spans = s }))
		}
	}
	return l
}

// P16.2: what Move and Behind refuse.
func TestMoveRefused(t *testing.T) {
	for _, size := range []int{0, 1, 6, 100} {
		for _, op := range broken(size) {
			if mayUpon(op, size) {
				t.Fatalf("the test is wrong: %v may be upon %d", op, size)
			}
			for _, m := range []caret.Mark{mark(1, 0, size), mark(2, size, 0), {}} {
				if err := holdsMove(t, m, op, size); err != api.ErrArg {
					t.Errorf("Move(%v, %v, %d): %d", m, short(op), size, err)
				}
			}
			if err := holdsBehind(t, op, size); err != api.ErrArg {
				t.Errorf("Behind(%v, %d): %d", short(op), size, err)
			}
		}
		// Marks that may not be, of operations that may.
		for _, op := range []api.Op{insertion(name(1, 1), 1, 0, "x"), insertion(name(1, 1), 1, size, "xy"), deletion(name(1, 1), 1)} {
			for _, n := range append([]int{size + 1}, numbers...) {
				for _, m := range []caret.Mark{mark(1, n, 0), mark(1, size, n), mark(2, n, n)} {
					if err := holdsMove(t, m, op, size); err != api.ErrArg {
						t.Errorf("Move(%v, %v, %d): %d", m, op, size, err)
					}
				}
			}
			for _, site := range append([]int{0, maxSites + 1}, numbers...) {
				if err := holdsMove(t, mark(site, 0, size), op, size); err != api.ErrArg {
					t.Errorf("Move(of the site %d, %v, %d): %d", site, op, size, err)
				}
			}
		}
	}
	// Sizes that may not be, and one too great for what is inserted.
	for _, size := range numbers {
		for _, op := range []api.Op{insertion(name(1, 1), 1, 0, "x"), deletion(name(1, 1), 1), deletion(name(1, 1), 1, 0, 1)} {
			if holdsMove(t, mark(1, 0, 0), op, size) != api.ErrArg || holdsBehind(t, op, size) != api.ErrArg {
				t.Error(size, op)
			}
		}
	}
	long := insertion(name(1, 1), 1, 0, strings.Repeat("x", 200))
	if holdsMove(t, mark(1, 0, 0), long, maxCells-199) != api.ErrArg || holdsMove(t, mark(1, 0, 0), long, maxCells-200) != api.OK {
		t.Error("200 more than there is room for")
	}
	if holdsBehind(t, long, maxCells-199) != api.ErrArg || holdsBehind(t, long, maxCells-200) != api.OK {
		t.Error("200 more than there is room for")
	}
}

// P16.3: what Drop refuses.
func TestDropRefused(t *testing.T) {
	lists := [][]api.Span{list(0, 0), list(3, -1), list(-1, 1), list(-1, 2), list(maxCells, 1), list(maxCells-1, 2), list(1, 1, 2, 1), list(1, 3, 2, 1), list(4, 1, 1, 1), list(1, 1, 1, 1), list(0, 1, 3, 0), list(0, maxCells+1), list(5, math.MaxInt), list(math.MaxInt, math.MaxInt), list(math.MaxInt, 1), list(math.MinInt, 1), list(2, math.MinInt), list(1, 2, 5, math.MaxInt)}
	for _, l := range lists {
		for _, m := range []caret.Mark{mark(1, 0, 0), mark(maxSites, 9, 4), mark(2, maxCells, maxCells), {}, mark(1, -1, 0)} {
			if err := holdsDrop(t, m, l); err != api.ErrArg {
				t.Errorf("Drop(%v, %v): %d", m, l, err)
			}
		}
	}
	for _, l := range [][]api.Span{nil, list(0, 1), list(0, maxCells), list(maxCells-1, 1)} {
		broken := []caret.Mark{{}, mark(0, 1, 1), mark(maxSites+1, 1, 1)}
		for _, n := range numbers {
			broken = append(broken, mark(1, n, 1), mark(1, 1, n), mark(n, 1, 1))
		}
		for _, m := range broken {
			if err := holdsDrop(t, m, l); err != api.ErrArg {
				t.Errorf("Drop(%v, %v): %d", m, l, err)
			}
		}
		for _, m := range []caret.Mark{mark(1, 0, 0), mark(maxSites, 0, maxCells), mark(1, maxCells, 0), mark(1, maxCells, maxCells)} {
			if err := holdsDrop(t, m, l); err != api.OK {
				t.Errorf("Drop(%v, %v): %d", m, l, err)
			}
		}
	}
}

// What is handed in is left as it was, the spare room behind lists and the bytes of texts too, be it refused or not.
func TestHandedIn(t *testing.T) {
	spare := api.Span{From: -7, Len: -7}
	room := func(l []api.Span) []api.Span { return slices.Clone(l[:cap(l)]) }
	for _, size := range []int{0, 1, 6} {
		for _, op := range append(deeds(size, 1, 2), broken(size)...) {
			op.Spans = hists.Roomy(op.Spans, spare)
			was, all := op, room(op.Spans)
			for m := range marks(1, -1, size+1) {
				caret.Move(m, op, size)
				caret.Behind(op, size)
				caret.Drop(m, op.Spans)
			}
			if !slices.Equal(room(op.Spans), all) || op.Text != was.Text {
				t.Fatalf("%v isn't as it was", short(was))
			}
		}
	}
	for l := range small(4) {
		d := docOf(t, l)
		for m := range marks(1, -1, len(l)+1) {
			caret.Put(d, m.Site, m.At, m.To)
			caret.Shown(d, m)
		}
		if !slices.Equal(d.Cells(), l) || d.Size() != len(l) || d.Live() != seen(l, len(l)) {
			t.Fatalf("%v isn't as it was: %v", l, d.Cells())
		}
	}
}

// Lists of nothing are alike, be they nil or empty.
func TestNilIsEmpty(t *testing.T) {
	for _, none := range [][]api.Span{nil, {}, list(1, 1)[:0]} {
		for m := range marks(2, 0, 3) {
			del := api.Op{Name: name(1, 1), Kind: api.Del, Spans: none}
			ins := api.Op{Name: name(1, 1), Kind: api.Ins, At: 2, Text: "x", Spans: none}
			if holdsMove(t, m, del, 3) != api.OK || holdsMove(t, m, ins, 3) != api.OK || holdsBehind(t, del, 3) != api.OK || holdsBehind(t, ins, 3) != api.OK || holdsDrop(t, m, none) != api.OK {
				t.Error(none == nil, m)
			}
		}
	}
	for _, l := range [][]api.Cell{nil, {}} {
		d := docOf(t, l)
		if holdsPut(t, d, l, 1, 0, 0) != api.OK || holdsShown(t, d, l, mark(1, 0, 0)) != api.OK {
			t.Error(l == nil)
		}
	}
}
