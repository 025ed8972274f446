package caret_test

import (
	"math/rand"
	"slices"
	"testing"

	"foolscap/api"
	"foolscap/caret"
	"foolscap/cells"
	"foolscap/model"
	"foolscap/model/hists"
)

// The limits, as the chapters write them out.
const (
	maxCells = model.MaxCells
	maxSites = model.MaxSites
	maxNum   = model.MaxNum
)

// What the tests take from the model, in short.
var (
	list, name, insertion, deletion = model.List, model.Name, model.Insertion, model.Deletion
	mayUpon, adds, short            = model.MayUpon, model.Adds, model.Short
	play, subsets, each             = model.Play, model.Subsets, model.Each
)

// mark is a mark, in short.
func mark(site, at, to int) caret.Mark {
	return caret.Mark{Site: site, At: at, To: to}
}

// modelMay follows the chapter's words.
func modelMay(m caret.Mark, size int) bool {
	return size >= 0 && size <= maxCells && m.Site >= 1 && m.Site <= maxSites && m.At >= 0 && m.At <= size && m.To >= 0 && m.To <= size
}

// gap follows P12.3: the place of a live cell, or the end.
func gap(l []api.Cell, i int) (int, bool) {
	var live []int
	for p, c := range l {
		if !c.Gone {
			live = append(live, p)
		}
	}
	live = append(live, len(l))
	if i < 0 || i >= len(live) {
		return 0, false
	}
	return live[i], true
}

// seen follows P12.3: how many live cells stand ahead of a place.
func seen(l []api.Cell, p int) int {
	n := 0
	for _, c := range l[:p] {
		if !c.Gone {
			n++
		}
	}
	return n
}

// modelPut follows P16.1's words.
func modelPut(l []api.Cell, site, i, j int) (caret.Mark, api.Errno) {
	if site < 1 || site > maxSites {
		return caret.Mark{}, api.ErrArg
	}
	at, ok := gap(l, i)
	if !ok {
		return caret.Mark{}, api.ErrRange
	}
	to, ok := gap(l, j)
	if !ok {
		return caret.Mark{}, api.ErrRange
	}
	return mark(site, at, to), api.OK
}

// modelShown follows P16.1's words.
func modelShown(l []api.Cell, m caret.Mark) (int, int, api.Errno) {
	if !modelMay(m, len(l)) {
		return 0, 0, api.ErrArg
	}
	return seen(l, m.At), seen(l, m.To), api.OK
}

// modelPoint follows P9.3's words, of what may be.
func modelPoint(p int, op api.Op, stays bool) int {
	if op.Kind == 1 && (p > op.At || p == op.At && !stays) {
		return p + adds(op)
	}
	return p
}

// modelMove follows P16.2's words.
func modelMove(m caret.Mark, op api.Op, size int) (caret.Mark, api.Errno) {
	if !modelMay(m, size) || !mayUpon(op, size) {
		return caret.Mark{}, api.ErrArg
	}
	stays := op.Name.Site != m.Site
	return mark(m.Site, modelPoint(m.At, op, stays), modelPoint(m.To, op, stays)), api.OK
}

// modelBehind follows P16.2's words.
func modelBehind(op api.Op, size int) (caret.Mark, api.Errno) {
	if !mayUpon(op, size) {
		return caret.Mark{}, api.ErrArg
	}
	at := 0
	switch {
	case op.Kind == 1:
		at = op.At + adds(op)
	case len(op.Spans) > 0:
		at = op.Spans[0].From
	}
	return mark(op.Name.Site, at, at), api.OK
}

// modelDrop follows P16.3's words, place by place; of spans that may be by chapter 7's, as a deletion's may.
func modelDrop(m caret.Mark, l []api.Span) (caret.Mark, api.Errno) {
	if !mayUpon(api.Op{Name: name(1, 1), Kind: 2, Spans: l}, maxCells) || !modelMay(m, maxCells) {
		return caret.Mark{}, api.ErrArg
	}
	next := m
	for p := range model.Places(l) {
		if p < m.At {
			next.At--
		}
		if p < m.To {
			next.To--
		}
	}
	return next, api.OK
}

// docOf makes a document.
func docOf(t *testing.T, l []api.Cell) *cells.Doc {
	t.Helper()
	d, err := cells.New(l)
	if err != api.OK {
		t.Fatal(err)
	}
	return d
}

// holdsPut checks Put against the model.
func holdsPut(t *testing.T, d *cells.Doc, l []api.Cell, site, i, j int) api.Errno {
	t.Helper()
	want, wantErr := modelPut(l, site, i, j)
	got, err := caret.Put(d, site, i, j)
	if got != want || err != wantErr {
		t.Fatalf("Put(of %d cells, %d, %d, %d): %v, %d, not %v, %d", len(l), site, i, j, got, err, want, wantErr)
	}
	return err
}

// holdsShown checks Shown, and May, against the model.
func holdsShown(t *testing.T, d *cells.Doc, l []api.Cell, m caret.Mark) api.Errno {
	t.Helper()
	wantI, wantJ, wantErr := modelShown(l, m)
	i, j, err := caret.Shown(d, m)
	if i != wantI || j != wantJ || err != wantErr {
		t.Fatalf("Shown(of %d cells, %v): %d, %d, %d, not %d, %d, %d", len(l), m, i, j, err, wantI, wantJ, wantErr)
	}
	holdsMay(t, m, len(l))
	return err
}

// holdsMay checks May against the model.
func holdsMay(t *testing.T, m caret.Mark, size int) bool {
	t.Helper()
	got := caret.May(m, size)
	if got != modelMay(m, size) {
		t.Fatalf("May(%v, %d): %v", m, size, got)
	}
	return got
}

// holdsMove checks Move against the model; what comes of it may be upon what the operation leaves.
func holdsMove(t *testing.T, m caret.Mark, op api.Op, size int) api.Errno {
	t.Helper()
	want, wantErr := modelMove(m, op, size)
	got, err := caret.Move(m, op, size)
	if got != want || err != wantErr {
		t.Fatalf("Move(%v, %v, %d): %v, %d, not %v, %d", m, short(op), size, got, err, want, wantErr)
	}
	if err == api.OK && !caret.May(got, size+adds(op)) {
		t.Fatalf("Move(%v, %v, %d): %v may not be", m, short(op), size, got)
	}
	return err
}

// holdsBehind checks Behind against the model; what comes of it may be upon what the operation leaves.
func holdsBehind(t *testing.T, op api.Op, size int) api.Errno {
	t.Helper()
	want, wantErr := modelBehind(op, size)
	got, err := caret.Behind(op, size)
	if got != want || err != wantErr {
		t.Fatalf("Behind(%v, %d): %v, %d, not %v, %d", short(op), size, got, err, want, wantErr)
	}
	if err == api.OK && !caret.May(got, size+adds(op)) {
		t.Fatalf("Behind(%v, %d): %v may not be", short(op), size, got)
	}
	return err
}

// holdsDrop checks Drop against the model.
func holdsDrop(t *testing.T, m caret.Mark, l []api.Span) api.Errno {
	t.Helper()
	want, wantErr := modelDrop(m, l)
	got, err := caret.Drop(m, l)
	if got != want || err != wantErr {
		t.Fatalf("Drop(%v, %v): %v, %d, not %v, %d", m, l[:min(len(l), 9)], got, err, want, wantErr)
	}
	return err
}

// row is a document of named cells, of which those at the bits set are Gone.
func row(size, gone int) []api.Cell {
	var l []api.Cell
	for p := range size {
		l = append(l, hists.Cell(9, 1, p, rune('a'+p), gone>>p&1 == 1))
	}
	return l
}

// small goes along all documents of up to so many cells, be each live or Gone.
func small(most int) func(yield func([]api.Cell) bool) {
	return func(yield func([]api.Cell) bool) {
		for size := range most + 1 {
			for gone := range 1 << size {
				if !yield(row(size, gone)) {
					return
				}
			}
		}
	}
}

// marks goes along a site's marks with places from and to some.
func marks(site, from, to int) func(yield func(caret.Mark) bool) {
	return func(yield func(caret.Mark) bool) {
		for at := from; at <= to; at++ {
			for end := from; end <= to; end++ {
				if !yield(mark(site, at, end)) {
					return
				}
			}
		}
	}
}

// deeds are all insertions of a rune, and of two, and all deletions upon a size, of some sites.
func deeds(size int, sites ...int) []api.Op {
	var l []api.Op
	for _, site := range sites {
		for at := range size + 1 {
			l = append(l, insertion(name(site, 1), 1, at, "x"), insertion(name(site, 2), 0, at, "y\u20ac"))
		}
		for _, s := range subsets(size) {
			l = append(l, api.Op{Name: name(site, 3), Num: 2, Kind: api.Del, Spans: s})
		}
	}
	return l
}

// The chapter's example.
func TestExample(t *testing.T) {
	d := docOf(t, row(3, 0))
	m, err := caret.Put(d, 1, 1, 1)
	if m != mark(1, 1, 1) || err != api.OK {
		t.Fatal(m, err)
	}
	for _, x := range []struct {
		op   api.Op
		want int
	}{{insertion(name(2, 1), 0, 1, "q"), 1}, {insertion(name(1, 1), 0, 1, "xy"), 3}} {
		doc := d.Copy()
		if err := doc.Do(x.op); err != api.OK {
			t.Fatal(err)
		}
		moved, err := caret.Move(m, x.op, 3)
		if err != api.OK {
			t.Fatal(err)
		}
		if i, j, err := caret.Shown(doc, moved); i != x.want || j != x.want || err != api.OK {
			t.Errorf("behind %v: shown %d, %d, %d", x.op, i, j, err)
		}
	}
}

// P16.1: what is put and shown of documents whose cells b and d are Gone.
func TestPutShown(t *testing.T) {
	d := docOf(t, row(5, 0b01010))
	for i, at := range []int{0, 2, 4, 5} {
		for j, to := range []int{0, 2, 4, 5} {
			if m, err := caret.Put(d, 7, i, j); m != mark(7, at, to) || err != api.OK {
				t.Errorf("Put(%d, %d): %v, %d", i, j, m, err)
			}
		}
	}
	want := []int{0, 1, 1, 2, 2, 3}
	for at := range want {
		for to := range want {
			if i, j, err := caret.Shown(d, mark(maxSites, at, to)); i != want[at] || j != want[to] || err != api.OK {
				t.Errorf("Shown(%d, %d): %d, %d, %d", at, to, i, j, err)
			}
		}
	}
	// All are Gone, or there are none: all is shown at 0, and what is put stands at the end.
	for size, gone := range []int{0, 0b1, 0b11, 0b111} {
		d := docOf(t, row(size, gone))
		if m, err := caret.Put(d, 1, 0, 0); m != mark(1, size, size) || err != api.OK {
			t.Error(size, m, err)
		}
		if i, j, err := caret.Shown(d, mark(1, size, 0)); i != 0 || j != 0 || err != api.OK {
			t.Error(size, i, j, err)
		}
	}
}

// P16.2: what stands in the middle of 4 cells, and what each operation makes of it.
func TestMove(t *testing.T) {
	for _, x := range []struct {
		m    caret.Mark
		op   api.Op
		want caret.Mark
	}{
		// Others' insertions: ahead of a place, at it, behind it.
		{mark(1, 2, 2), insertion(name(2, 1), 1, 1, "xyz"), mark(1, 5, 5)},
		{mark(1, 2, 2), insertion(name(2, 1), 1, 2, "xyz"), mark(1, 2, 2)},
		{mark(1, 2, 2), insertion(name(2, 1), 1, 3, "xyz"), mark(1, 2, 2)},
		// Its own.
		{mark(1, 2, 2), insertion(name(1, 1), 0, 1, "xyz"), mark(1, 5, 5)},
		{mark(1, 2, 2), insertion(name(1, 1), 0, 2, "xyz"), mark(1, 5, 5)},
		{mark(1, 2, 2), insertion(name(1, 1), 0, 3, "xyz"), mark(1, 2, 2)},
		// Of what selects, either place goes on its own, whichever is ahead.
		{mark(2, 1, 3), insertion(name(1, 1), 1, 1, "x"), mark(2, 1, 4)},
		{mark(2, 3, 1), insertion(name(1, 1), 1, 1, "x"), mark(2, 4, 1)},
		{mark(2, 1, 3), insertion(name(1, 1), 1, 3, "x"), mark(2, 1, 3)},
		{mark(2, 3, 1), insertion(name(1, 1), 1, 3, "x"), mark(2, 3, 1)},
		{mark(2, 1, 3), insertion(name(2, 1), 0, 1, "x"), mark(2, 2, 4)},
		{mark(2, 3, 1), insertion(name(2, 1), 0, 3, "x"), mark(2, 4, 1)},
		// At the beginning, and at the end.
		{mark(3, 0, 4), insertion(name(2, 1), 1, 0, "\u20ac\U0001f642"), mark(3, 0, 6)},
		{mark(3, 4, 0), insertion(name(2, 1), 1, 4, "\u20ac\U0001f642"), mark(3, 4, 0)},
		{mark(3, 0, 4), insertion(name(3, 1), 0, 0, "\u20ac\U0001f642"), mark(3, 2, 6)},
		{mark(3, 4, 0), insertion(name(3, 1), 0, 4, "\u20ac\U0001f642"), mark(3, 6, 0)},
		// Deletions leave the places, be they ahead, around or behind, or of nothing.
		{mark(1, 2, 2), deletion(name(2, 1), 1, 0, 2), mark(1, 2, 2)},
		{mark(1, 2, 2), deletion(name(2, 1), 1, 1, 2), mark(1, 2, 2)},
		{mark(1, 2, 3), deletion(name(1, 1), 1, 2, 2), mark(1, 2, 3)},
		{mark(1, 4, 1), deletion(name(1, 1), 1, 0, 4), mark(1, 4, 1)},
		{mark(1, 4, 1), deletion(name(2, 1), 1), mark(1, 4, 1)},
	} {
		if got, err := caret.Move(x.m, x.op, 4); got != x.want || err != api.OK {
			t.Errorf("Move(%v, %v): %v, %d, not %v", x.m, x.op, got, err, x.want)
		}
	}
}

// P16.2: where a site's mark is behind what it did upon 6 cells.
func TestBehind(t *testing.T) {
	for _, x := range []struct {
		op   api.Op
		want int
	}{
		{insertion(name(5, 1), 0, 0, "x"), 1}, {insertion(name(5, 1), 3, 2, "xyz"), 5}, {insertion(name(5, 1), 0, 6, "\u20ac\U0001f642"), 8},
		{deletion(name(5, 1), 0), 0}, {deletion(name(5, 1), 4, 0, 6), 0}, {deletion(name(5, 1), 0, 2, 1), 2}, {deletion(name(5, 1), 0, 1, 2, 4, 1), 1}, {deletion(name(5, 1), 0, 5, 1), 5},
	} {
		if got, err := caret.Behind(x.op, 6); got != mark(5, x.want, x.want) || err != api.OK {
			t.Errorf("Behind(%v): %v, %d, not %d", x.op, got, err, x.want)
		}
	}
}

// P16.3: places below, in and behind what is dropped.
func TestDrop(t *testing.T) {
	l := list(2, 3, 7, 1)
	for p, want := range []int{0, 1, 2, 2, 2, 2, 3, 4, 4, 5, 6} {
		for q, other := range []int{0, 1, 2, 2, 2, 2, 3, 4, 4, 5, 6} {
			if got, err := caret.Drop(mark(4, p, q), l); got != mark(4, want, other) || err != api.OK {
				t.Errorf("Drop(%d, %d): %v, %d", p, q, got, err)
			}
		}
	}
	// What is all behind it, and no places at all.
	for _, l := range [][]api.Span{nil, {}, list(5, 1), list(5, maxCells-5), list(maxCells-1, 1)} {
		if got, err := caret.Drop(mark(4, 5, 3), l); got != mark(4, 5, 3) || err != api.OK {
			t.Error(l, got, err)
		}
	}
}

// P16.1: all that can be asked of small documents.
func TestSmallDocuments(t *testing.T) {
	for l := range small(5) {
		d := docOf(t, l)
		live := seen(l, len(l))
		for _, site := range []int{0, 1, 2, maxSites, maxSites + 1} {
			for m := range marks(site, -2, live+2) {
				holdsPut(t, d, l, site, m.At, m.To)
			}
			for m := range marks(site, -2, len(l)+2) {
				holdsShown(t, d, l, m)
			}
		}
	}
}

// P16.2: all that can be done to all marks upon small sizes.
func TestSmallDeeds(t *testing.T) {
	for size := range 5 {
		for _, op := range append(deeds(size, 1, 2), deeds(size+1, 1)...) {
			holdsBehind(t, op, size)
			for m := range marks(1, -1, size+1) {
				holdsMove(t, m, op, size)
			}
		}
	}
}

// P16.3: all marks of all that can be dropped of small documents.
func TestSmallDrops(t *testing.T) {
	for _, l := range subsets(6) {
		for m := range marks(3, -1, 8) {
			holdsDrop(t, m, l)
		}
	}
}

// P16.1 to P16.3: at random, upon all sizes.
func TestRandom(t *testing.T) {
	r := rand.New(rand.NewSource(16))
	for range 20000 {
		size := []int{r.Intn(20), r.Intn(500), maxCells - r.Intn(300), r.Intn(maxCells + 1)}[r.Intn(4)]
		near := []int{0, size, r.Intn(size + 1)}[r.Intn(3)]
		op := model.Picked(r.Intn, name(1+r.Intn(3), 1+r.Intn(5)), size, near)
		at := []int{near, op.At, op.At + adds(op), r.Intn(size + 1)}
		if len(op.Spans) > 0 {
			s := op.Spans[r.Intn(len(op.Spans))]
			at = append(at, s.From, s.From+s.Len-1, s.From+s.Len)
		}
		m := mark(1+r.Intn(3), at[r.Intn(len(at))], at[r.Intn(len(at))])
		holdsMay(t, m, size)
		holdsMove(t, m, op, size)
		holdsBehind(t, op, size)
		holdsDrop(t, m, op.Spans)
	}
}

// P16.1 to P16.3, upon as many cells as there may be.
func TestGreatest(t *testing.T) {
	l := hists.Wide(maxCells).Base
	d := docOf(t, l)
	live := d.Live()
	for _, i := range []int{0, 1, live / 2, live - 1, live} {
		if holdsPut(t, d, l, 1, i, live-i) != api.OK || holdsPut(t, d, l, 1, i, live+1) != api.ErrRange || holdsPut(t, d, l, 1, -1, i) != api.ErrRange {
			t.Error(i)
		}
	}
	for _, p := range []int{0, 1, 2, 3, 199, 200, 201, maxCells / 2, maxCells - 1, maxCells} {
		if holdsShown(t, d, l, mark(1, p, maxCells-p)) != api.OK || holdsShown(t, d, l, mark(1, p, maxCells+1)) != api.ErrArg {
			t.Error(p)
		}
		for _, op := range []api.Op{deletion(name(1, 1), 1), deletion(name(1, 1), 1, 0, maxCells), deletion(name(2, 1), 1, maxCells-1, 1), {Name: name(1, 1), Kind: api.Del, Spans: each(1, maxCells)}} {
			if holdsMove(t, mark(1, p, maxCells-p), op, maxCells) != api.OK || holdsBehind(t, op, maxCells) != api.OK || holdsDrop(t, mark(1, p, maxCells-p), op.Spans) != api.OK {
				t.Error(p, short(op))
			}
		}
		// Nothing more has room; one cell less leaves it for one.
		x := insertion(name(1, 1), 1, min(p, maxCells-1), "x")
		if holdsMove(t, mark(1, p, 0), x, maxCells) != api.ErrArg || holdsBehind(t, x, maxCells) != api.ErrArg {
			t.Error(p)
		}
		m := mark(1, x.At, maxCells-1-x.At)
		if holdsMove(t, m, x, maxCells-1) != api.OK || holdsBehind(t, x, maxCells-1) != api.OK {
			t.Error(p)
		}
	}
	if got, err := caret.Behind(insertion(name(1, 1), 1, maxCells-1, "x"), maxCells-1); got != mark(1, maxCells, maxCells) || err != api.OK {
		t.Error(got, err)
	}
	if got, err := caret.Drop(mark(1, maxCells, 0), list(0, maxCells)); got != mark(1, 0, 0) || err != api.OK {
		t.Error(got, err)
	}
}

// A call's answer doesn't hang on what was asked ahead of it, nor on what a document was made of.
func TestNothingElse(t *testing.T) {
	l := row(5, 0b00110)
	made, typed := docOf(t, l), docOf(t, nil)
	if err := typed.Do(insertion(name(9, 1), 0, 0, "abcde")); err != api.OK {
		t.Fatal(err)
	}
	if err := typed.Do(deletion(name(9, 2), 0, 1, 2)); err != api.OK {
		t.Fatal(err)
	}
	if !slices.Equal(made.Cells(), typed.Cells()) {
		t.Fatal("the test is wrong: they aren't alike")
	}
	for range 2 {
		for m := range marks(1, 0, 5) {
			holdsShown(t, made, l, m)
			holdsShown(t, typed, l, m)
			holdsPut(t, made, l, 2, m.At, m.To)
			holdsPut(t, typed, l, 2, m.At, m.To)
		}
	}
}
