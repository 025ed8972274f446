package cells_test

import (
	"math"
	"math/rand"
	"slices"
	"strings"
	"testing"
	"unsafe"

	"foolscap/api"
	"foolscap/cells"
	"foolscap/model"
)

// The limits, as the chapters write them out.
const (
	maxText  = model.MaxText
	maxCells = model.MaxCells
	maxSites = model.MaxSites
	maxNum   = model.MaxNum
)

// What the tests take from the model, in short.
var (
	list, name, insertion, deletion = model.List, model.Name, model.Insertion, model.Deletion
	mayUpon, play, sameSpans, each  = model.MayUpon, model.Play, model.SameSpans, model.Each
	subsets, with, short, mayCell   = model.Subsets, model.With, model.Short, model.MayCell
)

// huge are numbers far from all limits.
var huge = []int{math.MinInt, math.MinInt + 1, math.MinInt32, -maxCells, -1, maxCells + 1, 1 << 31, 1 << 32, 1 << 33, maxNum + 1, math.MaxInt - 1, math.MaxInt}

// cell makes a live cell.
func cell(site, seq, off int, r rune) api.Cell {
	return api.Cell{Name: name(site, seq), Off: off, R: r}
}

// gone makes a cell that is Gone.
func gone(site, seq, off int, r rune) api.Cell {
	c := cell(site, seq, off, r)
	c.Gone = true
	return c
}

// many makes so many cells, each 200 of one name, all of one rune; every third of them, and each in a run of them, is Gone.
func many(n int) []api.Cell {
	var l []api.Cell
	for i := range n {
		c := cell(1+i/maxText%maxSites, 1000+i/maxText, i%maxText, 'm')
		c.Gone = i%3 == 2 || i%1500 >= 1000
		l = append(l, c)
	}
	return l
}

// sample are cells as they come in documents: of several names, live and Gone.
func sample() []api.Cell {
	return []api.Cell{gone(1, 1, 0, 'a'), cell(1, 1, 1, 'b'), gone(2, 1, 0, 0x20ac), gone(2, 1, 1, 'c'), cell(1, 1, 2, 'd'), cell(3, 5, 7, 0x1f642), gone(1, 1, 3, 'e')}
}

// made makes a document.
func made(t *testing.T, l []api.Cell) *cells.Doc {
	t.Helper()
	d, err := cells.New(l)
	if d == nil || err != api.OK {
		t.Fatalf("New(%v): %d", few(l), err)
	}
	return d
}

// few are no more cells than can be told.
func few(l []api.Cell) []api.Cell {
	return l[:min(len(l), 12)]
}

// model: a plain list of cells.

// same tells whether two cells are of one name and one Off.
func same(a, b api.Cell) bool {
	return model.AlikeNames(a.Name, b.Name) && a.Off == b.Off
}

// modelNew follows P12.1's words.
func modelNew(l []api.Cell) api.Errno {
	for _, c := range l {
		if !mayCell(c) {
			return api.ErrArg
		}
	}
	for i, c := range l {
		for _, other := range l[:i] {
			if same(c, other) {
				return api.ErrTwice
			}
		}
	}
	if len(l) > maxCells {
		return api.ErrFull
	}
	return api.OK
}

// modelDo follows P12.1's words: what the cells come to be, and what is told.
func modelDo(l []api.Cell, op api.Op) ([]api.Cell, api.Errno) {
	if !mayUpon(op, len(l)) {
		return l, api.ErrArg
	}
	if op.Kind == api.Ins && slices.ContainsFunc(l, func(c api.Cell) bool { return model.AlikeNames(c.Name, op.Name) }) {
		return l, api.ErrTwice
	}
	return play(l, op), api.OK
}

// live are the places of the cells that are live.
func live(l []api.Cell) []int {
	var all []int
	for p, c := range l {
		if !c.Gone {
			all = append(all, p)
		}
	}
	return all
}

// modelRun follows P12.3's words.
func modelRun(l []api.Cell, i, n int) ([]api.Span, api.Errno) {
	all := live(l)
	if i < 0 || i > len(all) || n < 0 || n > len(all)-i {
		return nil, api.ErrRange
	}
	var run []api.Span
	for _, p := range all[i : i+n] {
		run = with(run, p)
	}
	return run, api.OK
}

// modelGone follows P12.2's words.
func modelGone(l []api.Cell) []api.Span {
	var all []api.Span
	for p, c := range l {
		if c.Gone {
			all = with(all, p)
		}
	}
	return all
}

// modelText follows the chapter's words.
func modelText(l []api.Cell) string {
	var b strings.Builder
	for _, p := range live(l) {
		b.WriteRune(l[p].R)
	}
	return b.String()
}

// mayList follows chapter 7's words, place by place, and tells whether all places are below a size.
func mayList(l []api.Span, size int) bool {
	return mayUpon(api.Op{Name: name(1, 1), Kind: api.Del, Spans: l}, size)
}

// modelDrop follows P12.4's words.
func modelDrop(l []api.Cell, places []api.Span) ([]api.Cell, api.Errno) {
	if !mayList(places, len(l)) {
		return l, api.ErrArg
	}
	dropped := make([]bool, len(l))
	for p := range model.Places(places) {
		if !l[p].Gone {
			return l, api.ErrState
		}
		dropped[p] = true
	}
	var left []api.Cell
	for p, c := range l {
		if !dropped[p] {
			left = append(left, c)
		}
	}
	return left, api.OK
}

// holdsAll checks what a document tells of all its cells.
func holdsAll(t *testing.T, d *cells.Doc, l []api.Cell) {
	t.Helper()
	if got := d.Cells(); !slices.Equal(got, l) {
		t.Fatalf("Cells: %v, not %v", few(got), few(l))
	}
	if got, want := d.Size(), len(l); got != want {
		t.Fatalf("Size of %v: %d, not %d", few(l), got, want)
	}
	if got, want := d.Live(), len(live(l)); got != want {
		t.Fatalf("Live of %v: %d, not %d", few(l), got, want)
	}
	if got, want := d.Text(), modelText(l); got != want {
		t.Fatalf("Text of %v: %q, not %q", few(l), short(insertion(name(1, 1), 0, 0, got)).Text, short(insertion(name(1, 1), 0, 0, want)).Text)
	}
	if got, want := d.Gone(), modelGone(l); !sameSpans(got, want) {
		t.Fatalf("Gone of %v: %v, not %v", few(l), got, want)
	}
}

// holdsPlaces checks what a document tells of each of its places, and of its live cells.
func holdsPlaces(t *testing.T, d *cells.Doc, l []api.Cell) {
	t.Helper()
	gaps := append(live(l), len(l))
	for i, want := range gaps {
		if got, err := d.Gap(i); got != want || err != api.OK {
			t.Fatalf("Gap(%d) of %v: %d, %d, not %d", i, few(l), got, err, want)
		}
	}
	for _, i := range append(huge, len(gaps), len(gaps)+1) {
		if got, err := d.Gap(i); (i < 0 || i >= len(gaps)) && (got != 0 || err != api.ErrRange) {
			t.Fatalf("Gap(%d) of %v: %d, %d", i, few(l), got, err)
		}
	}
	seen := 0
	for p := range len(l) + 1 {
		if got, err := d.Seen(p); got != seen || err != api.OK {
			t.Fatalf("Seen(%d) of %v: %d, %d, not %d", p, few(l), got, err, seen)
		}
		if p == gaps[seen] {
			seen++
		}
	}
	for _, p := range append(huge, len(l)+1, len(l)+2) {
		if got, err := d.Seen(p); got != 0 || err != api.ErrRange {
			t.Fatalf("Seen(%d) of %v: %d, %d", p, few(l), got, err)
		}
	}
}

// holdsRun checks Run against the model.
func holdsRun(t *testing.T, d *cells.Doc, l []api.Cell, i, n int) {
	t.Helper()
	want, wantErr := modelRun(l, i, n)
	if got, err := d.Run(i, n); !sameSpans(got, want) || err != wantErr {
		t.Fatalf("Run(%d, %d) of %v: %v, %d, not %v, %d", i, n, few(l), got, err, want, wantErr)
	}
}

// holdsFind checks where a cell of a name and an Off is found.
func holdsFind(t *testing.T, d *cells.Doc, l []api.Cell, n api.Name, off int) {
	t.Helper()
	want := slices.IndexFunc(l, func(c api.Cell) bool { return same(c, api.Cell{Name: n, Off: off}) })
	if got, ok := d.Find(n, off); ok != (want >= 0) || got != max(want, 0) {
		t.Fatalf("Find(%v, %d) of %v: %d, %t, not %d", n, off, few(l), got, ok, want)
	}
}

// holds checks all that a document of few cells tells.
func holds(t *testing.T, d *cells.Doc, l []api.Cell) {
	t.Helper()
	holdsAll(t, d, l)
	holdsPlaces(t, d, l)
	n := len(live(l))
	for i := -1; i <= n+1; i++ {
		for k := -1; k <= n+1; k++ {
			holdsRun(t, d, l, i, k)
		}
	}
	for _, c := range l {
		holdsFind(t, d, l, c.Name, c.Off)
		holdsFind(t, d, l, c.Name, c.Off+1)
		holdsFind(t, d, l, name(c.Name.Site+1, c.Name.Seq), c.Off)
		holdsFind(t, d, l, name(c.Name.Site, c.Name.Seq+1), c.Off)
	}
}

// holdsMany checks what a document of many cells tells, of some of them by pick, which picks numbers below what it is given.
func holdsMany(t *testing.T, d *cells.Doc, l []api.Cell, pick func(int) int) {
	t.Helper()
	holdsAll(t, d, l)
	holdsPlaces(t, d, l)
	n := len(live(l))
	for _, x := range [][2]int{{0, n}, {0, n + 1}, {0, 0}, {n, 0}, {n, 1}, {n + 1, 0}, {n / 2, n - n/2}, {n / 2, n - n/2 + 1}, {pick(n + 1), pick(n + 1)}, {pick(n + 1), pick(9)}, {pick(n + 1), pick(9)}} {
		holdsRun(t, d, l, x[0], x[1])
	}
	for range min(len(l), 40) {
		c := l[pick(len(l))]
		holdsFind(t, d, l, c.Name, c.Off)
		holdsFind(t, d, l, c.Name, pick(maxText))
		holdsFind(t, d, l, name(c.Name.Site, c.Name.Seq+1+pick(3)), c.Off)
	}
}

// done carries an operation out upon a document and upon a list, and checks what is told.
func done(t *testing.T, d *cells.Doc, l []api.Cell, op api.Op) []api.Cell {
	t.Helper()
	next, want := modelDo(l, op)
	if err := d.Do(op); err != want {
		t.Fatalf("%v upon %v: %d, not %d", short(op), few(l), err, want)
	}
	return next
}

// dropped drops cells of a document and of a list, and checks what is told.
func dropped(t *testing.T, d *cells.Doc, l []api.Cell, places []api.Span) []api.Cell {
	t.Helper()
	next, want := modelDrop(l, places)
	if err := d.Drop(places); err != want {
		t.Fatalf("Drop(%v) of %v: %d, not %d", places, few(l), err, want)
	}
	return next
}

// The chapter's example.
func TestExample(t *testing.T) {
	d := made(t, nil)
	if err := d.Do(insertion(name(1, 1), 1, 0, "abc")); err != api.OK {
		t.Fatal(err)
	}
	if err := d.Do(deletion(name(2, 1), 2, 1, 1)); err != api.OK {
		t.Fatal(err)
	}
	if d.Text() != "ac" || d.Size() != 3 || d.Live() != 2 {
		t.Error(d.Text(), d.Size(), d.Live())
	}
	if p, err := d.Gap(1); p != 2 || err != api.OK {
		t.Error(p, err)
	}
	if p, err := d.Gap(2); p != 3 || err != api.OK {
		t.Error(p, err)
	}
	if l, err := d.Run(0, 2); !sameSpans(l, list(0, 1, 2, 1)) || err != api.OK {
		t.Error(l, err)
	}
}

// P12.1, P12.2, P12.3: what a document tells of the cells it was made of, written out.
func TestNew(t *testing.T) {
	d := made(t, sample())
	if !slices.Equal(d.Cells(), sample()) || d.Size() != 7 || d.Live() != 3 || d.Text() != "bd\U0001f642" || !sameSpans(d.Gone(), list(0, 1, 2, 2, 6, 1)) {
		t.Error(d.Cells(), d.Size(), d.Live(), d.Text(), d.Gone())
	}
	for i, want := range []int{1, 4, 5, 7} {
		if p, err := d.Gap(i); p != want || err != api.OK {
			t.Error(i, p, err)
		}
	}
	for p, want := range []int{0, 0, 1, 1, 1, 2, 3, 3} {
		if n, err := d.Seen(p); n != want || err != api.OK {
			t.Error(p, n, err)
		}
	}
	for _, x := range []struct {
		i, n int
		want []api.Span
	}{{0, 0, nil}, {1, 0, nil}, {3, 0, nil}, {0, 1, list(1, 1)}, {0, 2, list(1, 1, 4, 1)}, {0, 3, list(1, 1, 4, 2)}, {1, 1, list(4, 1)}, {1, 2, list(4, 2)}, {2, 1, list(5, 1)}} {
		if l, err := d.Run(x.i, x.n); !sameSpans(l, x.want) || err != api.OK {
			t.Error(x, l, err)
		}
	}
	for p, c := range sample() {
		if got, ok := d.Find(c.Name, c.Off); got != p || !ok {
			t.Error(c, got, ok)
		}
	}
	holds(t, d, sample())
}

// P12.1, P12.2: documents of no cell, and of one.
func TestFewest(t *testing.T) {
	for _, l := range [][]api.Cell{nil, {}, {cell(1, 1, 0, 'a')}, {gone(1, 1, 0, 'a')}, {cell(maxSites, maxNum, maxText-1, 0x10ffff)}, {gone(1, 1, 64, 0)}, {cell(1, maxNum, 127, 0xd7ff)}, {cell(1, 1, 128, 0xe000)}} {
		d := made(t, l)
		holds(t, d, l)
		for _, off := range append(huge, 0, 1, 63, 64, 65, maxText-1, maxText, maxText+1, 256) {
			holdsFind(t, d, l, name(1, 1), off)
		}
		for _, n := range huge {
			holdsFind(t, d, l, name(1, n), 0)
			holdsFind(t, d, l, name(n, 1), 0)
			for _, k := range append(huge, 0, 1) {
				holdsRun(t, d, l, n, k)
				holdsRun(t, d, l, k, n)
			}
		}
	}
}

// P12.1: all lists of up to three cells of some, among them such as may not be.
func TestNewSmall(t *testing.T) {
	some := []api.Cell{cell(1, 1, 0, 'a'), gone(1, 1, 0, 'b'), cell(1, 1, 1, 'a'), cell(2, 1, 0, 'a'), gone(1, 2, 0, 'a'), cell(0, 1, 0, 'a'), cell(1, 1, maxText, 'a')}
	lists := [][]api.Cell{nil}
	for from := 0; len(lists) < 400; from++ {
		for _, c := range some {
			lists = append(lists, append(slices.Clone(lists[from]), c))
		}
	}
	for _, l := range lists {
		want := modelNew(l)
		d, err := cells.New(l)
		if err != want || (d == nil) != (want != api.OK) {
			t.Fatalf("New(%v): %v, %d, not %d", l, d, err, want)
		}
		if d != nil {
			holds(t, d, l)
		}
	}
}

// P12.1: cells that just may be, and such as may not, wherever they stand.
func TestNewOfWrongCells(t *testing.T) {
	for _, x := range []struct {
		may bool
		c   api.Cell
	}{
		{true, cell(1, 1, 0, 'q')}, {true, cell(maxSites, 1, 0, 'q')}, {true, cell(1, maxNum, 0, 'q')}, {true, cell(9, 9, maxText-1, 'q')}, {true, gone(9, 9, 1, 'q')},
		{true, cell(9, 9, 0, 0)}, {true, cell(9, 9, 0, 0x7f)}, {true, cell(9, 9, 0, 0x80)}, {true, cell(9, 9, 0, 0xd7ff)}, {true, cell(9, 9, 0, 0xe000)}, {true, cell(9, 9, 0, 0xfffd)}, {true, cell(9, 9, 0, 0xffff)}, {true, cell(9, 9, 0, 0x10000)}, {true, cell(9, 9, 0, 0x10ffff)},
		{false, api.Cell{}}, {false, cell(0, 1, 0, 'q')}, {false, cell(-1, 1, 0, 'q')}, {false, cell(maxSites+1, 1, 0, 'q')}, {false, cell(math.MaxInt, 1, 0, 'q')}, {false, cell(math.MinInt, 1, 0, 'q')}, {false, cell(1<<32+1, 1, 0, 'q')},
		{false, cell(1, 0, 0, 'q')}, {false, cell(1, -1, 0, 'q')}, {false, cell(1, maxNum+1, 0, 'q')}, {false, cell(1, math.MaxInt, 0, 'q')}, {false, cell(1, math.MinInt, 0, 'q')},
		{false, cell(1, 1, -1, 'q')}, {false, cell(1, 1, maxText, 'q')}, {false, cell(1, 1, 256, 'q')}, {false, cell(1, 1, math.MaxInt, 'q')}, {false, cell(1, 1, math.MinInt, 'q')}, {false, gone(1, 1, -1, 'q')},
		{false, cell(1, 1, 0, -1)}, {false, cell(1, 1, 0, 0xd800)}, {false, cell(1, 1, 0, 0xdc00)}, {false, cell(1, 1, 0, 0xdfff)}, {false, cell(1, 1, 0, 0x110000)}, {false, cell(1, 1, 0, math.MaxInt32)}, {false, cell(1, 1, 0, math.MinInt32)}, {false, gone(1, 1, 0, -1)}, {false, gone(1, 1, 0, 0xd800)},
	} {
		if mayCell(x.c) != x.may {
			t.Error("the model:", x.c)
		}
		for _, others := range []int{0, 1, 130, 300} {
			for _, at := range []int{0, others / 2, others} {
				l := slices.Insert(many(others), at, x.c)
				d, err := cells.New(l)
				if x.may && (err != api.OK || d.Size() != others+1) || !x.may && (d != nil || err != api.ErrArg) {
					t.Errorf("New of %d cells, and %v at %d: %v, %d", others, x.c, at, d, err)
				}
			}
		}
	}
}

// P12.1: two cells of one name and Off, live or Gone, of one rune or of two, wherever they stand.
func TestNewTwice(t *testing.T) {
	for _, n := range []int{2, 3, 130, 600} {
		l := many(n)
		for _, x := range [][2]int{{0, 1}, {0, n - 1}, {n / 2, 0}, {n - 1, 0}} {
			for _, change := range []func(*api.Cell){func(c *api.Cell) {}, func(c *api.Cell) { c.Gone = !c.Gone }, func(c *api.Cell) { c.R = 'z' }} {
				m := slices.Clone(l)
				m[x[0]] = m[x[1]]
				change(&m[x[0]])
				if d, err := cells.New(m); d != nil || err != api.ErrTwice {
					t.Errorf("New of %d cells, %d as %d: %v, %d", n, x[0], x[1], d, err)
				}
			}
		}
	}
	// All Offs of a name, from the last one on, and once more.
	var l []api.Cell
	for off := maxText - 1; off >= 0; off-- {
		l = append(l, cell(1, 1, off, 'a'))
	}
	holds(t, made(t, l), l)
	for off := range maxText {
		if d, err := cells.New(append(slices.Clone(l), gone(1, 1, off, 'b'))); d != nil || err != api.ErrTwice {
			t.Error(off, d, err)
		}
	}
}

// P12.1: as many cells as there may be, and one more; which error is told, where more than one would be.
func TestNewFull(t *testing.T) {
	l := many(maxCells + 1)
	twice, wrong, both := slices.Clone(l), slices.Clone(l), slices.Clone(l)
	twice[maxCells] = twice[0]
	wrong[maxCells].R = -1
	both[0], both[maxCells].Off = both[1], maxText
	for _, x := range []struct {
		l   []api.Cell
		err api.Errno
	}{
		{l, api.ErrFull}, {l[:maxCells], api.OK}, {l[:maxCells-1], api.OK}, {l[1:], api.OK}, {many(maxCells + 500), api.ErrFull},
		{twice, api.ErrTwice}, {wrong, api.ErrArg}, {both, api.ErrArg}, {both[:maxCells], api.ErrTwice}, {both[2:], api.ErrArg}, {twice[:maxCells], api.OK}, {wrong[:maxCells], api.OK},
		{[]api.Cell{l[0], l[0], {}}, api.ErrArg}, {[]api.Cell{{}, {}}, api.ErrArg}, {[]api.Cell{{}, l[0], l[0]}, api.ErrArg}, {[]api.Cell{l[0], l[0], l[1]}, api.ErrTwice},
	} {
		d, err := cells.New(x.l)
		if err != x.err || (d == nil) != (x.err != api.OK) {
			t.Errorf("New of %d cells: %v, %d, not %d", len(x.l), d, err, x.err)
		}
	}
	holdsMany(t, made(t, l[1:]), l[1:], rand.New(rand.NewSource(1)).Intn)
}

// P12.1: insertions, written out.
func TestInsert(t *testing.T) {
	a := insertion(name(1, 1), 1, 0, "ab")
	for at, want := range []string{"xyab", "axyb", "abxy"} {
		d := made(t, nil)
		l := done(t, d, nil, a)
		l = done(t, d, l, insertion(name(2, 1), 2, at, "xy"))
		if got := d.Text(); got != want {
			t.Error(at, got)
		}
		if got := d.Cells(); got[at] != cell(2, 1, 0, 'x') || got[at+1] != cell(2, 1, 1, 'y') {
			t.Error(at, got)
		}
		holds(t, d, l)
	}
	// Its Num hangs on nothing; runes of several bytes are one cell each.
	d := made(t, []api.Cell{gone(1, 1, 5, 'q')})
	if err := d.Do(insertion(name(1, 2), 0, 1, "\x00\u00e9\u20ac\U0001f642\ufffd")); err != api.OK || d.Text() != "\x00\u00e9\u20ac\U0001f642\ufffd" {
		t.Error(err, d.Text())
	}
	if got, want := d.Cells(), []api.Cell{gone(1, 1, 5, 'q'), cell(1, 2, 0, 0), cell(1, 2, 1, 0xe9), cell(1, 2, 2, 0x20ac), cell(1, 2, 3, 0x1f642), cell(1, 2, 4, 0xfffd)}; !slices.Equal(got, want) {
		t.Error(got, want)
	}
}

// P12.1: deletions, written out: of no span, of one, of several, of what is Gone already, of all.
func TestDelete(t *testing.T) {
	for _, x := range []struct {
		spans, gone []api.Span
		text        string
	}{
		{nil, list(0, 1, 2, 2, 6, 1), "bd\U0001f642"}, {list(1, 1), list(0, 4, 6, 1), "d\U0001f642"}, {list(0, 1), list(0, 1, 2, 2, 6, 1), "bd\U0001f642"}, {list(2, 3), list(0, 1, 2, 3, 6, 1), "b\U0001f642"},
		{list(1, 1, 5, 1), list(0, 4, 5, 2), "d"}, {list(0, 1, 4, 1, 6, 1), list(0, 1, 2, 3, 6, 1), "b\U0001f642"}, {list(0, 7), list(0, 7), ""}, {list(6, 1), list(0, 1, 2, 2, 6, 1), "bd\U0001f642"},
	} {
		d := made(t, sample())
		op := api.Op{Name: name(1, 1), Num: 3, Kind: api.Del, Spans: x.spans}
		l := done(t, d, sample(), op)
		if got := d.Text(); got != x.text || !sameSpans(d.Gone(), x.gone) {
			t.Errorf("behind %v: %q, %v, not %q, %v", x.spans, got, d.Gone(), x.text, x.gone)
		}
		holds(t, d, l)
		// Once more it changes nothing.
		holds(t, d, done(t, d, l, op))
	}
}

// patterns are all documents of a size, by which of their cells are Gone.
func patterns(size int) [][]api.Cell {
	var all [][]api.Cell
	for _, s := range subsets(size) {
		var l []api.Cell
		for p := range size {
			l = append(l, cell(1+p%2, 1, p, rune('a'+p)))
		}
		for p := range model.Places(s) {
			l[p].Gone = true
		}
		all = append(all, l)
	}
	return all
}

// acts are all insertions of one rune and of two, and all deletions, that may be upon a size.
func acts(n api.Name, size int) []api.Op {
	var all []api.Op
	for at := range size + 1 {
		all = append(all, insertion(n, 0, at, "x"), insertion(n, 1, at, "y\u00e9"))
	}
	for _, s := range subsets(size) {
		all = append(all, api.Op{Name: n, Kind: api.Del, Spans: s})
	}
	return all
}

// P12.1, P12.2, P12.3: all operations upon all small documents, and all others upon what comes of these.
func TestDoSmall(t *testing.T) {
	for size := range 5 {
		for _, l := range patterns(size) {
			for _, op := range acts(name(3, 1), size) {
				d := made(t, l)
				behind := done(t, d, l, op)
				holds(t, d, behind)
				if size > 2 {
					continue
				}
				for _, next := range acts(name(2, 9), len(behind)) {
					d := made(t, behind)
					holds(t, d, done(t, d, behind, next))
				}
			}
		}
	}
}

// P12.1: an insertion of a name that a cell has, live or Gone, the first or the last one; deletions may have it.
func TestDoTwice(t *testing.T) {
	for _, l := range [][]api.Cell{{cell(1, 7, 3, 'a')}, {gone(1, 7, 3, 'a')}, append(many(500), cell(1, 7, 3, 'a')), append([]api.Cell{gone(1, 7, 199, 'a')}, many(maxCells-9)...)} {
		d := made(t, l)
		for _, at := range []int{0, len(l) / 2, len(l)} {
			if err := d.Do(insertion(name(1, 7), 9, at, "z")); err != api.ErrTwice {
				t.Error(few(l), at, err)
			}
		}
		holdsAll(t, d, l)
		// ErrArg goes ahead.
		for _, op := range []api.Op{insertion(name(1, 7), 9, len(l)+1, "z"), insertion(name(1, 7), 9, -1, "z"), insertion(name(1, 7), 9, 0, ""), insertion(name(1, 7), 9, 0, "\xff"), insertion(name(1, 7), -1, 0, "z"), insertion(name(1, 7), 0, 0, strings.Repeat("z", maxText+1))} {
			if err := d.Do(op); err != api.ErrArg {
				t.Error(few(l), short(op), err)
			}
		}
		for _, n := range []api.Name{name(1, 8), name(1, 6), name(2, 7), name(maxSites, 7), name(7, 1)} {
			if err := d.Copy().Do(insertion(n, 9, 0, "z")); err != api.OK {
				t.Error(few(l), n, err)
			}
		}
		holdsAll(t, d, done(t, d, l, deletion(name(1, 7), 9, 0, 1)))
	}
	// What was inserted is there from then on, deleted too.
	d := made(t, nil)
	l := done(t, d, nil, insertion(name(1, 1), 1, 0, "ab"))
	l = done(t, d, l, insertion(name(1, 1), 1, 0, "ab"))
	l = done(t, d, l, deletion(name(1, 2), 1, 0, 2))
	l = done(t, d, l, insertion(name(1, 1), 0, 2, "c"))
	// A deletion's name isn't taken by it.
	l = done(t, d, l, insertion(name(1, 2), 0, 2, "c"))
	holds(t, d, l)
	if d.Text() != "c" || d.Size() != 3 {
		t.Error(d.Text(), d.Size())
	}
}

// P12.1: a document that comes to be full, cell by cell.
func TestDoFull(t *testing.T) {
	l := many(maxCells - 2)
	d := made(t, l)
	fresh := func(seq int, text string) api.Op { return insertion(name(16, seq), 0, seq*1000, text) }
	l = done(t, d, l, fresh(1, "abc"))
	l = done(t, d, l, fresh(2, "a"))
	l = done(t, d, l, fresh(3, "ab"))
	l = done(t, d, l, fresh(4, "\u20ac"))
	if d.Size() != maxCells {
		t.Fatal(d.Size())
	}
	for _, at := range []int{0, maxCells / 2, maxCells} {
		l = done(t, d, l, insertion(name(1, 1), 0, at, "a"))
		l = done(t, d, l, insertion(name(16, 4), 0, at, "a"))
	}
	holdsMany(t, d, l, rand.New(rand.NewSource(2)).Intn)
	l = done(t, d, l, deletion(name(1, 1), 0, 0, maxCells))
	holdsAll(t, d, l)
	l = dropped(t, d, l, list(maxCells-1, 1))
	l = done(t, d, l, insertion(name(1, 1), 0, 0, "ab"))
	l = done(t, d, l, insertion(name(1, 1), 0, 0, "a"))
	holdsMany(t, d, l, rand.New(rand.NewSource(3)).Intn)
	if d.Size() != maxCells || d.Text() != "a" {
		t.Error(d.Size(), d.Text())
	}
}

// P12.1: operations that may not be upon the size; none of them changes anything.
func TestDoWrong(t *testing.T) {
	wrong := []api.Op{{}, {Name: name(3, 1)}, {Name: name(3, 1), Kind: 3, Text: "a"}, {Name: name(3, 1), Kind: -1}, {Name: name(3, 1), Kind: math.MaxInt}}
	for _, op := range []api.Op{insertion(name(3, 1), 1, 3, "ab"), deletion(name(3, 1), 1, 1, 2)} {
		for _, change := range []func(*api.Op){
			func(op *api.Op) { op.Name.Site = 0 }, func(op *api.Op) { op.Name.Site = -1 }, func(op *api.Op) { op.Name.Site = maxSites + 1 }, func(op *api.Op) { op.Name.Site = math.MinInt },
			func(op *api.Op) { op.Name.Seq = 0 }, func(op *api.Op) { op.Name.Seq = maxNum + 1 }, func(op *api.Op) { op.Name.Seq = math.MaxInt },
			func(op *api.Op) { op.Num = -1 }, func(op *api.Op) { op.Num = maxNum + 1 }, func(op *api.Op) { op.Num = math.MinInt },
			func(op *api.Op) { op.At = -1 }, func(op *api.Op) { op.At = 8 }, func(op *api.Op) { op.At = math.MaxInt }, func(op *api.Op) { op.At = math.MinInt },
			func(op *api.Op) { op.Text += "\xc3" }, func(op *api.Op) { op.Text += "\xed\xa0\x80" }, func(op *api.Op) { op.Text += strings.Repeat("a", maxText) },
			func(op *api.Op) { op.Kind = 3 - op.Kind }, func(op *api.Op) { op.Kind = 0 },
			func(op *api.Op) { op.Spans = list(7, 1) }, func(op *api.Op) { op.Spans = list(6, 2) }, func(op *api.Op) { op.Spans = list(0, 8) }, func(op *api.Op) { op.Spans = list(1, 0) }, func(op *api.Op) { op.Spans = list(1, -1) }, func(op *api.Op) { op.Spans = list(-1, 2) }, func(op *api.Op) { op.Spans = list(1, 1, 2, 1) }, func(op *api.Op) { op.Spans = list(3, 1, 1, 1) }, func(op *api.Op) { op.Spans = list(1, math.MaxInt) }, func(op *api.Op) { op.Spans = list(0, 1, math.MaxInt, 1) }, func(op *api.Op) { op.Spans = list(0, 1, maxCells, 1) },
		} {
			x := op
			change(&x)
			wrong = append(wrong, x)
		}
	}
	wrong = append(wrong, insertion(name(3, 1), 1, 3, ""), api.Op{Name: name(3, 1), Kind: api.Del, At: 1}, api.Op{Name: name(3, 1), Kind: api.Del, Text: "a"}, api.Op{Name: name(3, 1), Kind: api.Ins, Text: "a", Spans: list(0, 1)})
	for _, op := range wrong {
		if mayUpon(op, 7) {
			t.Error("the model:", op)
		}
		d := made(t, sample())
		if err := d.Do(op); err != api.ErrArg {
			t.Errorf("Do(%v): %d", short(op), err)
		}
		holds(t, d, sample())
		holds(t, d, done(t, d, sample(), insertion(name(3, 1), 0, 7, "\u00e9z")))
	}
}

// P12.4: all drops of all small documents.
func TestDropSmall(t *testing.T) {
	for size := range 6 {
		for _, l := range patterns(size) {
			for _, s := range subsets(size + 1) {
				d := made(t, l)
				left := dropped(t, d, l, s)
				holds(t, d, left)
				holds(t, d, done(t, d, left, insertion(name(4, 1), 0, len(left)/2, "xy")))
			}
		}
	}
}

// P12.4: drops, written out.
func TestDrop(t *testing.T) {
	for _, x := range []struct {
		l, gone []api.Span
		size    int
	}{{nil, list(0, 1, 2, 2, 6, 1), 7}, {list(0, 1), list(1, 2, 5, 1), 6}, {list(2, 1), list(0, 1, 2, 1, 5, 1), 6}, {list(3, 1, 6, 1), list(0, 1, 2, 1), 5}, {list(0, 1, 2, 2, 6, 1), nil, 3}} {
		d := made(t, sample())
		if err := d.Drop(x.l); err != api.OK || d.Size() != x.size || !sameSpans(d.Gone(), x.gone) || d.Text() != "bd\U0001f642" {
			t.Errorf("Drop(%v): %d, %d, %v, %q", x.l, err, d.Size(), d.Gone(), d.Text())
		}
	}
	d := made(t, sample())
	if err := d.Drop(list(2, 2)); err != api.OK {
		t.Fatal(err)
	}
	for p, c := range []api.Cell{gone(1, 1, 0, 'a'), cell(1, 1, 1, 'b'), cell(1, 1, 2, 'd'), cell(3, 5, 7, 0x1f642), gone(1, 1, 3, 'e')} {
		if got, ok := d.Find(c.Name, c.Off); got != p || !ok || d.Cells()[p] != c {
			t.Error(c, got, ok)
		}
	}
	for off := range 2 {
		if p, ok := d.Find(name(2, 1), off); p != 0 || ok {
			t.Error(off, p, ok)
		}
	}
}

// P12.4: lists that may not be, that have places beyond, or places of live cells; which error is told, where more than one would be. None of them changes anything.
func TestDropWrong(t *testing.T) {
	for _, x := range []struct {
		l   []api.Span
		err api.Errno
	}{
		{list(1, 1), api.ErrState}, {list(0, 2), api.ErrState}, {list(2, 3), api.ErrState}, {list(0, 1, 2, 2, 5, 2), api.ErrState}, {list(0, 7), api.ErrState}, {list(5, 1), api.ErrState}, {list(2, 1, 4, 1, 6, 1), api.ErrState},
		{list(7, 1), api.ErrArg}, {list(6, 2), api.ErrArg}, {list(0, 8), api.ErrArg}, {list(0, 1, 2, 2, 6, 1, 8, 1), api.ErrArg}, {list(1, 1, 7, 1), api.ErrArg}, {list(0, maxCells), api.ErrArg}, {list(maxCells-1, 1), api.ErrArg}, {list(maxCells, 1), api.ErrArg}, {list(0, maxCells+1), api.ErrArg},
		{list(0, 0), api.ErrArg}, {list(7, 0), api.ErrArg}, {list(0, -1), api.ErrArg}, {list(-1, 1), api.ErrArg}, {list(-1, 2), api.ErrArg}, {list(2, 1, 3, 1), api.ErrArg}, {list(2, 2, 3, 1), api.ErrArg}, {list(6, 1, 0, 1), api.ErrArg}, {list(0, 1, 0, 1), api.ErrArg}, {list(0, 1, 2, 0), api.ErrArg},
		{list(1, 1, 2, 1), api.ErrArg}, {list(4, 1, 1, 1), api.ErrArg}, {list(1, 1, 3, 0), api.ErrArg}, {list(0, math.MaxInt), api.ErrArg}, {list(2, math.MaxInt), api.ErrArg}, {list(math.MaxInt, 1), api.ErrArg}, {list(math.MaxInt, math.MaxInt), api.ErrArg}, {list(math.MinInt, 1), api.ErrArg}, {list(math.MinInt, math.MinInt), api.ErrArg}, {list(0, 1, math.MinInt, math.MaxInt), api.ErrArg}, {list(0, math.MinInt), api.ErrArg},
	} {
		d := made(t, sample())
		if err := d.Drop(x.l); err != x.err {
			t.Errorf("Drop(%v): %d, not %d", x.l, err, x.err)
		}
		holds(t, d, sample())
	}
	d := made(t, nil)
	for _, l := range [][]api.Span{list(0, 1), list(0, 0), list(maxCells-1, 1), list(-1, 1)} {
		if err := d.Drop(l); err != api.ErrArg {
			t.Error(l, err)
		}
	}
	if err := d.Drop(nil); err != api.OK {
		t.Error(err)
	}
	// The last live one of many.
	l := many(1000)
	for p := range l {
		l[p].Gone = p != 997
	}
	d = made(t, l)
	for _, x := range []struct {
		l   []api.Span
		err api.Errno
	}{{list(0, 1000), api.ErrState}, {list(997, 1), api.ErrState}, {list(0, 998), api.ErrState}, {list(0, 997, 998, 3), api.ErrArg}, {list(0, 1001), api.ErrArg}} {
		if err := d.Drop(x.l); err != x.err {
			t.Errorf("Drop(%v): %d, not %d", x.l, err, x.err)
		}
		holdsAll(t, d, l)
	}
	holds(t, d, dropped(t, d, l, list(0, 997, 998, 2)))
}

// P12.1, P12.4: a name whose cells were all dropped can be inserted again; not so while one of them is left.
func TestDropAndAgain(t *testing.T) {
	d := made(t, nil)
	text := strings.Repeat("abcd", maxText/4)
	l := done(t, d, nil, insertion(name(1, 1), 1, 0, text))
	l = done(t, d, l, insertion(name(1, 2), 2, 100, "xyz"))
	l = done(t, d, l, deletion(name(1, 3), 3, 0, 203))
	for n := 203; n > 0; n -= 29 {
		l = done(t, d, l, insertion(name(1, 1), 4, 0, "q"))
		l = dropped(t, d, l, list(1, 28))
		holdsAll(t, d, l)
		l = dropped(t, d, l, list(0, 1))
		holdsAll(t, d, l)
		done(t, d.Copy(), l, insertion(name(1, 2), 5, 0, "q"))
	}
	if d.Size() != 0 || d.Text() != "" {
		t.Fatal(d.Cells())
	}
	l = done(t, d, l, insertion(name(1, 1), 6, 0, "new"))
	l = done(t, d, l, insertion(name(1, 2), 7, 3, "er"))
	holds(t, d, l)
	if d.Text() != "newer" {
		t.Error(d.Text())
	}
	if p, ok := d.Find(name(1, 1), 3); p != 0 || ok {
		t.Error(p, ok)
	}
	// Each one of a name's cells holds it.
	for off := range 5 {
		d := made(t, nil)
		l := done(t, d, nil, insertion(name(2, 2), 1, 0, "hello"))
		l = done(t, d, l, deletion(name(2, 3), 2, 0, 5))
		for p := 4; p >= 0; p-- {
			if p != off {
				l = dropped(t, d, l, list(p, 1))
			}
		}
		l = done(t, d, l, insertion(name(2, 2), 3, 1, "z"))
		holds(t, d, l)
		l = dropped(t, d, l, list(0, 1))
		holds(t, d, done(t, d, l, insertion(name(2, 2), 3, 0, "z")))
	}
}

// P12.1 to P12.3: so much is inserted at one spot, of several sizes, that blocks are filled and parted, whatever their size.
func TestGrow(t *testing.T) {
	r := rand.New(rand.NewSource(4))
	for _, long := range []int{1, 2, 7, 64, 100, 127, 128, 129, maxText} {
		text := strings.Repeat("n", long)
		for _, at := range []func(int) int{func(n int) int { return 0 }, func(n int) int { return n }, func(n int) int { return n / 2 }, func(n int) int { return n / 3 }, func(n int) int { return min(n, 100) }, func(n int) int { return max(n-100, 0) }, func(n int) int { return n / 128 * 128 }, func(n int) int { return n / 256 * 256 }} {
			l := many(100)
			d := made(t, l)
			for k := 1; len(l) < 700+long; k++ {
				l = done(t, d, l, insertion(name(16, k), 0, at(len(l)), text))
				if p := at(len(l)); p < len(l) && k%3 == 0 {
					l = done(t, d, l, deletion(name(16, k), 0, p, 1))
				}
				if k%50 == 1 || long > 50 {
					holdsAll(t, d, l)
				}
			}
			holdsMany(t, d, l, r.Intn)
		}
	}
}

// P12.1: an insertion at each place of documents about as long as blocks are, and deletions across all of their cells.
func TestAcross(t *testing.T) {
	for _, size := range []int{127, 128, 129, 255, 256, 257, 300} {
		l := many(size)
		for at := range size + 1 {
			d := made(t, l)
			next := done(t, d, l, insertion(name(16, 1), 0, at, "abc"))
			holdsAll(t, d, next)
			if p, ok := d.Find(name(16, 1), 2); p != at+2 || !ok {
				t.Error(size, at, p, ok)
			}
		}
		for _, op := range []api.Op{deletion(name(16, 1), 0, 0, size), {Name: name(16, 1), Kind: api.Del, Spans: each(0, size)}, {Name: name(16, 1), Kind: api.Del, Spans: each(1, size)}, deletion(name(16, 1), 0, 120, size-120), deletion(name(16, 1), 0, 0, 1, 126, 1, size-1, 1)} {
			d := made(t, l)
			next := done(t, d, l, op)
			holdsAll(t, d, next)
			holdsPlaces(t, d, next)
			holdsAll(t, d, dropped(t, d, next, op.Spans))
		}
	}
}

// act does one thing to a document, and to a list: mostly what may be, of a name that is new.
func act(t *testing.T, r *rand.Rand, d *cells.Doc, l []api.Cell, k int, grows bool) []api.Cell {
	t.Helper()
	pick := r.Intn(10)
	switch {
	case pick == 0 || !grows && pick < 4:
		// Some of the runs that are Gone, or all.
		places := modelGone(l)
		for n := r.Intn(3); n > 0 && len(places) > 0; n-- {
			at := r.Intn(len(places))
			places = slices.Delete(places, at, at+1+r.Intn(len(places)-at))
		}
		return dropped(t, d, l, places)
	case pick < 3 || !grows && pick < 9:
		op := model.Picked(func(n int) int { return r.Intn(n) }, name(16, k), len(l))
		if op.Kind == api.Del {
			return done(t, d, l, op)
		}
		n := len(live(l))
		i := r.Intn(n + 1)
		places, err := d.Run(i, r.Intn(n-i+1)/(1+r.Intn(8)))
		if err != api.OK {
			t.Fatal(err)
		}
		return done(t, d, l, api.Op{Name: name(16, k), Kind: api.Del, Spans: places})
	case pick == 9:
		// Sometimes a name that may be there, or a place that isn't.
		return done(t, d, l, insertion(name(16, 1+r.Intn(k)), 0, r.Intn(len(l)+2), "again"))
	}
	at := []int{0, len(l), r.Intn(len(l) + 1), len(l) / 2}[r.Intn(4)]
	return done(t, d, l, insertion(name(16, k), 0, at, strings.Repeat("a\u00e9\u20ac\U0001f642", maxText/4)[:[]int{1, 3, 6, 10, 100, 500}[r.Intn(6)]]))
}

// P12.1 to P12.4: many acts, by which documents grow and shrink; blocks are filled, parted and emptied.
func TestMany(t *testing.T) {
	for seed := range int64(60) {
		r := rand.New(rand.NewSource(seed))
		l := many([]int{0, 3, 130, 700}[r.Intn(4)])
		d := made(t, l)
		grows := true
		for k := 1; k < 200; k++ {
			l = act(t, r, d, l, k, grows)
			if r.Intn(40) == 0 {
				grows = !grows
			}
			if k%8 == 0 {
				holdsAll(t, d, l)
			}
			if k%40 == 0 {
				holdsMany(t, d, l, r.Intn)
			}
		}
	}
}

// P12.1 to P12.4: a document that is filled up to MaxCells and emptied, several times over.
func TestFillAndEmpty(t *testing.T) {
	r := rand.New(rand.NewSource(5))
	d, l := made(t, nil), []api.Cell(nil)
	k := 1
	for range 3 {
		for len(l) <= maxCells-maxText {
			l = done(t, d, l, insertion(name(1+k%maxSites, k), 0, r.Intn(len(l)+1), strings.Repeat("f", maxText-r.Intn(9))))
			k++
		}
		l = done(t, d, l, insertion(name(2, maxNum), 0, r.Intn(len(l)+1), strings.Repeat("e", maxCells-len(l))))
		l = done(t, d, l, insertion(name(2, maxNum-1), 0, r.Intn(len(l)+1), "e"))
		l = done(t, d, l, api.Op{Name: name(1, 1), Kind: api.Del, Spans: each(1, maxCells)})
		holdsMany(t, d, l, r.Intn)
		l = dropped(t, d, l, each(1, maxCells))
		holdsMany(t, d, l, r.Intn)
		l = done(t, d, l, deletion(name(1, 1), 0, 0, len(l)-1))
		l = dropped(t, d, l, list(0, len(l)-1))
		holds(t, d, l)
		l = dropped(t, d, done(t, d, l, deletion(name(1, 1), 0, 0, 1)), list(0, 1))
		holds(t, d, l)
	}
	if d.Size() != 0 || len(l) != 0 {
		t.Error(d.Size())
	}
}

// follows checks P12.5 of a document, at the i-th live cell, and of n from there on.
func follows(t *testing.T, d *cells.Doc, i, n int) {
	t.Helper()
	text := []rune(d.Text())
	at, err := d.Gap(i)
	if err != api.OK {
		t.Fatal(i, err)
	}
	if seen, err := d.Seen(at); seen != i || err != api.OK {
		t.Fatalf("Seen(Gap(%d)) of %v: %d, %d", i, few(d.Cells()), seen, err)
	}
	behind := d.Copy()
	if err := behind.Do(insertion(name(15, maxNum), 0, at, "new")); err != api.OK {
		t.Fatal(err)
	}
	if got, want := behind.Text(), string(text[:i])+"new"+string(text[i:]); got != want {
		t.Fatalf("inserted at Gap(%d) of %v: %q, not %q", i, few(d.Cells()), got, want)
	}
	places, err := d.Run(i, n)
	if err != api.OK {
		t.Fatal(i, n, err)
	}
	behind = d.Copy()
	if err := behind.Do(api.Op{Name: name(15, maxNum), Kind: api.Del, Spans: places}); err != api.OK {
		t.Fatal(err)
	}
	if got, want := behind.Text(), string(text[:i])+string(text[i+n:]); got != want {
		t.Fatalf("deleted at Run(%d, %d) of %v: %q, not %q", i, n, few(d.Cells()), got, want)
	}
	if err := behind.Drop(behind.Gone()); err != api.OK || behind.Text() != string(text[:i])+string(text[i+n:]) || behind.Size() != len(text)-n {
		t.Fatalf("deleted at Run(%d, %d) of %v, and dropped: %d, %q", i, n, few(d.Cells()), err, behind.Text())
	}
	if got := d.Text(); got != string(text) {
		t.Fatalf("%q, not %q", got, string(text))
	}
}

// P12.5: what is inserted at Gap(i) is seen from i on; what is deleted at Run(i, n) was seen there; what is dropped changes no text.
func TestFollows(t *testing.T) {
	for size := range 7 {
		for _, l := range patterns(size) {
			d := made(t, l)
			for i := range d.Live() + 1 {
				for n := range d.Live() - i + 1 {
					follows(t, d, i, n)
				}
			}
		}
	}
	r := rand.New(rand.NewSource(6))
	for _, size := range []int{100, 129, 600, 3000, maxCells - 3} {
		d := made(t, many(size))
		for range 20 {
			i := r.Intn(d.Live() + 1)
			follows(t, d, i, r.Intn(d.Live()-i+1))
		}
		follows(t, d, 0, d.Live())
		follows(t, d, d.Live(), 0)
		// Of what is Gone a part is dropped.
		text, l := d.Text(), d.Gone()
		if err := d.Drop(l[:len(l)/2]); err != api.OK || d.Text() != text || d.Live() != len([]rune(text)) {
			t.Error(size, err)
		}
	}
}

// P12.4: a copy has the same cells, and what is done to the one isn't done to the other.
func TestCopy(t *testing.T) {
	for _, l := range [][]api.Cell{nil, {cell(1, 1, 0, 'a')}, sample(), many(300), many(maxCells)} {
		d := made(t, l)
		one, other := d.Copy(), d.Copy()
		for i, c := range []*cells.Doc{one, other, one.Copy()} {
			if c == nil || c == d {
				t.Fatal(i, few(l))
			}
			holdsAll(t, c, l)
		}
		size := len(l)
		behind := done(t, one, l, deletion(name(9, 1), 0, 0, size))
		behind = dropped(t, one, behind, list(0, size)[:min(size, 1)])
		behind = done(t, one, behind, insertion(name(16, maxNum), 0, 0, "one"))
		holdsAll(t, one, behind)
		holdsAll(t, d, l)
		holdsAll(t, other, l)
		if size < maxCells {
			holdsAll(t, d, done(t, d, l, insertion(name(16, maxNum), 0, size/2, "d")))
		} else {
			holdsAll(t, d, done(t, d, l, deletion(name(16, maxNum), 0, 0, 7)))
		}
		holdsAll(t, one, behind)
		holdsAll(t, other, l)
		// The copy knows the names; it forgets and learns them by itself.
		if size > 0 && size < maxCells {
			done(t, other, l, insertion(l[size-1].Name, 0, 0, "z"))
			again := done(t, one, behind, insertion(l[size-1].Name, 0, 0, "z"))
			holdsAll(t, one, again)
			holdsFind(t, other, l, l[0].Name, l[0].Off)
			holdsFind(t, other, l, name(16, maxNum), 0)
		}
	}
}

// Every method of nil.
func TestNil(t *testing.T) {
	var d *cells.Doc
	for range 2 {
		for _, op := range []api.Op{{}, insertion(name(1, 1), 1, 0, "a"), deletion(name(1, 1), 1)} {
			if err := d.Do(op); err != api.ErrArg {
				t.Error(op, err)
			}
		}
		if d.Size() != 0 || d.Live() != 0 || d.Text() != "" || len(d.Cells()) != 0 || len(d.Gone()) != 0 {
			t.Error(d.Size(), d.Live(), d.Text(), d.Cells(), d.Gone())
		}
		for _, i := range append(huge, 0, 1) {
			if p, err := d.Gap(i); p != 0 || err != api.ErrArg {
				t.Error(i, p, err)
			}
			if n, err := d.Seen(i); n != 0 || err != api.ErrArg {
				t.Error(i, n, err)
			}
			for _, n := range append(huge, 0, 1) {
				if l, err := d.Run(i, n); len(l) != 0 || err != api.ErrArg {
					t.Error(i, n, l, err)
				}
			}
			if p, ok := d.Find(name(1, 1), i); p != 0 || ok {
				t.Error(i, p, ok)
			}
		}
		for _, l := range [][]api.Span{nil, {}, list(0, 1), list(-1, 1)} {
			if err := d.Drop(l); err != api.ErrArg {
				t.Error(l, err)
			}
		}
		if got := d.Copy(); got != nil {
			t.Error(got)
		}
	}
}

// roomy tells a list with spare room behind it that is filled with a thing.
func roomy[T any](l []T, thing T) []T {
	room := slices.Clone(l)
	for range 300 {
		room = append(room, thing)
	}
	return room[:len(l)]
}

// Rule 5: what is handed in is neither changed, its spare room neither, nor kept.
func TestHandedIn(t *testing.T) {
	for _, size := range []int{0, 1, 127, 128, 200, 256, 300} {
		l := roomy(many(size), gone(-7, -7, -7, -7))
		was := slices.Clone(l[:cap(l)])
		spans := roomy(modelGone(many(size)), api.Span{From: -77, Len: -77})
		wasSpans := slices.Clone(spans[:cap(spans)])
		text := strings.Repeat("text", 40)
		bytes := []byte(text)
		op := insertion(name(16, 1), 0, size/2, unsafe.String(&bytes[0], len(bytes)))
		d := made(t, l)
		want := done(t, d, many(size), deletion(name(16, 9), 0, 0, (size+1)/2))
		want = done(t, d, want, api.Op{Name: name(16, 1), Kind: api.Del, Spans: spans})
		want = dropped(t, d, want, spans)
		op.At = len(want)
		want = done(t, d, want, op)
		if !slices.Equal(l[:cap(l)], was) || !sameSpans(spans[:cap(spans)], wasSpans) || string(bytes) != text {
			t.Errorf("of %d cells: what was handed in is changed", size)
		}
		for i := range l[:cap(l)] {
			l[:cap(l)][i] = cell(-8, -8, -8, -8)
		}
		for i := range spans[:cap(spans)] {
			spans[:cap(spans)][i] = api.Span{From: -88, Len: -88}
		}
		for i := range bytes {
			bytes[i] = 'x'
		}
		holdsAll(t, d, want)
		holdsFind(t, d, want, want[0].Name, want[0].Off)
	}
}

// Rule 5: what is told is new memory, each time; changing it changes no document, and nothing that was told changes by what is done.
func TestTold(t *testing.T) {
	for _, l := range [][]api.Cell{sample(), many(128), many(600)} {
		d := made(t, l)
		c, other := d.Copy(), made(t, l)
		n := d.Live()
		told := [][]api.Cell{d.Cells(), d.Cells(), c.Cells(), other.Cells()}
		runs := func() [][]api.Span {
			one, _ := d.Run(0, n)
			two, _ := d.Run(0, n)
			three, _ := c.Run(0, n)
			return [][]api.Span{one, two, three, d.Gone(), d.Gone(), c.Gone(), other.Gone()}
		}
		places := runs()
		for i := range told {
			for k := range i {
				if model.Shared(told[i], told[k]) {
					t.Error(few(l), i, k)
				}
			}
		}
		for i := range places {
			for k := range i {
				if model.Shared(places[i], places[k]) {
					t.Error(few(l), i, k)
				}
			}
		}
		for _, x := range told {
			x = x[:cap(x)]
			for i := range x {
				x[i] = gone(-8, -8, -8, -8)
			}
		}
		for _, x := range places {
			x = x[:cap(x)]
			for i := range x {
				x[i] = api.Span{From: -88, Len: -88}
			}
		}
		for _, x := range []*cells.Doc{d, c, other} {
			holdsAll(t, x, l)
		}
		// What was told stays, whatever is done.
		was, text := d.Cells(), d.Text()
		run, _ := d.Run(0, n)
		wantRun, _ := modelRun(l, 0, n)
		goneWas := d.Gone()
		next := done(t, d, l, deletion(name(16, 9), 0, 0, len(l)))
		next = done(t, d, next, insertion(name(16, 9), 0, 1, "zz"))
		dropped(t, d, next, list(0, 1))
		if !slices.Equal(was, l) || text != modelText(l) || !sameSpans(run, wantRun) || !sameSpans(goneWas, modelGone(l)) {
			t.Error(few(l), "what was told is changed")
		}
	}
}

// Rule 6: two documents to which the same was done answer the same, whatever was asked, or refused, of one of them between.
func TestNothingElse(t *testing.T) {
	for seed := range int64(5) {
		r, same := rand.New(rand.NewSource(seed)), rand.New(rand.NewSource(seed))
		l := many(200)
		d, other := made(t, l), made(t, l)
		for k := 1; k < 80; k++ {
			next := act(t, r, d, l, k, k%30 < 20)
			d.Do(insertion(name(16, k), 0, -1, "a"))
			d.Do(api.Op{})
			d.Drop(list(0, maxCells))
			d.Gap(-1)
			d.Run(0, maxCells)
			d.Find(name(16, k), 3)
			d.Copy().Do(insertion(name(1, 1), 0, 0, "abc"))
			if got := act(t, same, other, l, k, k%30 < 20); !slices.Equal(got, next) {
				t.Fatal(seed, k)
			}
			l = next
		}
		holdsMany(t, d, l, func(n int) int { return n / 2 })
		holdsMany(t, other, l, func(n int) int { return n / 2 })
	}
}

// Rule 4: nil and empty are one and the same.
func TestNilIsEmpty(t *testing.T) {
	one, other := made(t, nil), made(t, []api.Cell{})
	for _, d := range []*cells.Doc{one, other} {
		var l []api.Cell
		for _, spans := range [][]api.Span{nil, {}} {
			l = done(t, d, l, api.Op{Name: name(1, 1), Kind: api.Del, Spans: spans})
			l = dropped(t, d, l, spans)
			if run, err := d.Run(0, 0); len(run) != 0 || err != api.OK {
				t.Error(run, err)
			}
			holds(t, d, l)
		}
		op := insertion(name(1, 1), 0, 0, "ab")
		op.Spans = []api.Span{}
		holds(t, d, done(t, d, l, op))
	}
}
