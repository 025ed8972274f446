package lists_test

import (
	"math"
	"math/rand"
	"slices"
	"strings"
	"testing"
	"unsafe"

	"foolscap/api"
	"foolscap/lists"
	"foolscap/model"
)

// The limits, as the chapters write them out.
const (
	maxCells = model.MaxCells
	maxSites = model.MaxSites
	maxNum   = model.MaxNum
)

// What the tests take from the model, in short.
var (
	list, name, insertion, deletion    = model.List, model.Name, model.Insertion, model.Deletion
	mayUpon, adds, behind, hangs       = model.MayUpon, model.Adds, model.Behind, model.Hangs
	alike, alikeAll, alikeNames, short = model.Alike, model.AlikeAll, model.AlikeNames, model.Short
	blank, play, shorts, each          = model.Blank, model.Play, model.Shorts, model.Each
	run, modelBring                    = model.Run, model.Bring
)

// of makes a list of operations.
func of(l ...api.Op) []api.Op {
	return l
}

// has tells whether one of a list has a name.
func has(l []api.Op, n api.Name) bool {
	return slices.ContainsFunc(l, func(op api.Op) bool { return alikeNames(op.Name, n) })
}

// behindAll follows the chapter's words: one behind a list, upon documents with room for all of them.
func behindAll(a api.Op, l []api.Op) api.Op {
	for _, op := range l {
		a = behind(a, op)
	}
	return a
}

// over follows the chapter's words: each of l comes to be behind m, as far as that is itself behind those ahead in l.
func over(l, m []api.Op) []api.Op {
	var all []api.Op
	for _, op := range l {
		all = append(all, behindAll(op, m))
		m = after(m, op)
	}
	return all
}

// after is a list as it is behind one: each of it is behind that, as far as that is behind those ahead of it.
func after(m []api.Op, op api.Op) []api.Op {
	var all []api.Op
	for k := range m {
		all = append(all, behind(m[k], behindAll(op, m[:k])))
	}
	return all
}

// modelInclAll follows P11.2's words.
func modelInclAll(a api.Op, l []api.Op, size int) (api.Op, api.Errno) {
	if _, ok := run(l, size); !ok || !mayUpon(a, size) || has(l, a.Name) {
		return api.Op{}, api.ErrArg
	}
	for _, op := range l {
		a = behind(a, op)
		size += adds(op)
		if !mayUpon(a, size) {
			return api.Op{}, api.ErrFull
		}
	}
	return a, api.OK
}

// modelCross follows P11.2's words. There is no room where the last two that insert meet, if there is none for both lists.
func modelCross(l, m []api.Op, size int) ([]api.Op, []api.Op, api.Errno) {
	left, one := run(l, size)
	leftToo, other := run(m, size)
	if !one || !other || slices.ContainsFunc(l, func(op api.Op) bool { return has(m, op.Name) }) {
		return nil, nil, api.ErrArg
	}
	if left+leftToo-size > maxCells {
		return nil, nil, api.ErrFull
	}
	return over(l, m), over(m, l), api.OK
}

// modelExclAll follows P11.3's words.
func modelExclAll(a api.Op, l []api.Op, size int) (api.Op, int, api.Errno) {
	left, ok := run(l, size)
	if !ok || !mayUpon(a, left) || has(l, a.Name) {
		return api.Op{}, 0, api.ErrArg
	}
	for i := len(l) - 1; i >= 0; i-- {
		if hangs(a, l[i]) {
			return api.Op{}, i, api.ErrLost
		}
		a, _ = model.Torn(a, l[i])
	}
	return a, 0, api.OK
}

// holdsRun checks Run against the model.
func holdsRun(t *testing.T, l []api.Op, size int) {
	t.Helper()
	want, wantOk := run(l, size)
	if got, ok := lists.Run(l, size); got != want || ok != wantOk {
		t.Fatalf("Run(%v, %d): %d, %t, not %d, %t", shorts(l), size, got, ok, want, wantOk)
	}
}

// holdsIncl checks InclAll against the model, and that what comes of it, with the list taken out, is as it was.
func holdsIncl(t *testing.T, a api.Op, l []api.Op, size int) {
	t.Helper()
	want, wantErr := modelInclAll(a, l, size)
	got, err := lists.InclAll(a, l, size)
	if !alike(got, want) || err != wantErr {
		t.Fatalf("InclAll(%v, %v, %d): %v, %d, not %v, %d", short(a), shorts(l), size, short(got), err, short(want), wantErr)
	}
	if err != api.OK {
		return
	}
	if was, at, err := lists.ExclAll(got, l, size); !alike(was, a) || at != 0 || err != api.OK {
		t.Fatalf("%v behind %v upon %d, and without it: %v, %d, %d", short(a), shorts(l), size, short(was), at, err)
	}
	// It is behind the list where a list of it alone would be.
	if one, _, err := lists.Cross(of(a), l, size); !alikeAll(one, of(got)) || err != api.OK {
		t.Fatalf("Cross of %v alone and %v upon %d: %v, %d, not %v", short(a), shorts(l), size, shorts(one), err, short(got))
	}
}

// holdsExcl checks ExclAll against the model, and that what comes of it is behind the list as it was.
func holdsExcl(t *testing.T, a api.Op, l []api.Op, size int) {
	t.Helper()
	want, wantAt, wantErr := modelExclAll(a, l, size)
	got, at, err := lists.ExclAll(a, l, size)
	if !alike(got, want) || at != wantAt || err != wantErr {
		t.Fatalf("ExclAll(%v, %v, %d): %v, %d, %d, not %v, %d, %d", short(a), shorts(l), size, short(got), at, err, short(want), wantAt, wantErr)
	}
	if err != api.OK {
		return
	}
	if again, err := lists.InclAll(got, l, size); !alike(again, a) || err != api.OK {
		t.Fatalf("%v without %v upon %d, and behind it again: %v, %d", short(a), shorts(l), size, short(again), err)
	}
}

// holdsCross checks Cross both ways round against the model, and the documents that come of it.
func holdsCross(t *testing.T, l, m []api.Op, size int) {
	t.Helper()
	wantL, wantM, wantErr := modelCross(l, m, size)
	gotL, gotM, err := lists.Cross(l, m, size)
	if !alikeAll(gotL, wantL) || !alikeAll(gotM, wantM) || err != wantErr {
		t.Fatalf("Cross(%v, %v, %d): %v, %v, %d, not %v, %v, %d", shorts(l), shorts(m), size, shorts(gotL), shorts(gotM), err, shorts(wantL), shorts(wantM), wantErr)
	}
	if gotM, gotL, err := lists.Cross(m, l, size); !alikeAll(gotL, wantL) || !alikeAll(gotM, wantM) || err != wantErr {
		t.Fatalf("Cross(%v, %v, %d): %v, %v, %d, not %v, %v, %d", shorts(m), shorts(l), size, shorts(gotM), shorts(gotL), err, shorts(wantM), shorts(wantL), wantErr)
	}
	if err == api.OK {
		sameCells(t, blank(size), slices.Concat(l, gotM), slices.Concat(m, gotL))
	}
}

// holdsBring checks Bring against the model, and the documents that come of it.
func holdsBring(t *testing.T, l []api.Op, from, to, size int) {
	t.Helper()
	want, wantErr := modelBring(l, from, to, size)
	got, err := lists.Bring(l, from, to, size)
	if !alikeAll(got, want) || err != wantErr {
		t.Fatalf("Bring(%v, %d, %d, %d): %v, %d, not %v, %d", shorts(l), from, to, size, shorts(got), err, shorts(want), wantErr)
	}
	if err == api.OK {
		sameCells(t, blank(size), l, got)
	}
}

// sameCells checks that two lists may be, and leave the same cells of a document, in the same order, the same of them deleted.
func sameCells(t *testing.T, doc []api.Cell, l, m []api.Op) {
	t.Helper()
	for _, x := range [][]api.Op{l, m} {
		if _, ok := run(x, len(doc)); !ok {
			t.Fatalf("%v may not be upon %d", shorts(x), len(doc))
		}
	}
	if !slices.Equal(play(doc, l...), play(doc, m...)) {
		t.Fatalf("%v and %v leave unlike documents of %d", shorts(l), shorts(m), len(doc))
	}
}

// The chapter's example.
func TestExample(t *testing.T) {
	l := of(insertion(name(1, 1), 1, 1, "ab"))
	m := of(deletion(name(2, 1), 2, 0, 2), insertion(name(2, 2), 3, 3, "x"))
	behindL, behindM := of(deletion(name(2, 1), 2, 0, 1, 3, 1), insertion(name(2, 2), 3, 5, "x")), l
	if gotL, gotM, err := lists.Cross(l, m, 3); !alikeAll(gotL, behindM) || !alikeAll(gotM, behindL) || err != api.OK {
		t.Error(gotL, gotM, err)
	}
	if gotM, gotL, err := lists.Cross(m, l, 3); !alikeAll(gotL, behindM) || !alikeAll(gotM, behindL) || err != api.OK {
		t.Error(gotM, gotL, err)
	}
}

// P11.1: as they are written out.
func TestRun(t *testing.T) {
	a, b, c := insertion(name(1, 1), 1, 2, "abc"), deletion(name(2, 1), 2, 0, 1, 4, 1), insertion(name(1, 2), 0, 5, "\u00e9\U0001f642")
	long := strings.Repeat("\u20ac", 200)
	for _, x := range []struct {
		l    []api.Op
		size int
		want int
		ok   bool
	}{
		// Of none: whatever sizes there are.
		{nil, 0, 0, true}, {[]api.Op{}, 7, 7, true}, {nil, maxCells, maxCells, true}, {nil, -1, 0, false}, {nil, maxCells + 1, 0, false}, {nil, math.MinInt, 0, false}, {nil, math.MaxInt, 0, false},
		// Of one.
		{of(a), 2, 5, true}, {of(a), 1, 0, false}, {of(b), 5, 5, true}, {of(b), 4, 0, false}, {of(c), 5, 7, true}, {of(c), 4, 0, false}, {of(deletion(name(1, 1), 0)), 0, 0, true}, {of(insertion(name(1, 1), 0, 0, long)), 0, 200, true}, {of(a), -1, 0, false}, {of(a), math.MaxInt, 0, false}, {of(api.Op{}), 5, 0, false},
		// Of several, each upon what those ahead of it leave.
		{of(a, b), 2, 5, true}, {of(b, a), 2, 0, false}, {of(b, a), 5, 8, true}, {of(a, b, c), 2, 7, true}, {of(a, c, b), 2, 7, true}, {of(c, a, b), 2, 0, false}, {of(b, c, a), 4, 0, false}, {of(c, a, b), 5, 10, true}, {of(a, b, c), 1, 0, false}, {of(a, b, c), -1, 0, false},
		// Up to as many cells as there may be, and one more.
		{of(a), maxCells - 3, maxCells, true}, {of(a), maxCells - 2, 0, false}, {of(a, b, c), maxCells - 5, maxCells, true}, {of(a, b, c), maxCells - 4, 0, false}, {of(a, c, b), maxCells - 3, 0, false}, {of(b), maxCells, maxCells, true}, {of(b), maxCells + 1, 0, false}, {of(deletion(name(1, 1), 0, 0, maxCells)), maxCells, maxCells, true}, {of(deletion(name(1, 1), 0, 0, maxCells)), maxCells - 1, 0, false}, {of(a, deletion(name(1, 9), 0, 0, maxCells)), maxCells - 3, maxCells, true},
		// Two of one name, one behind the other and further off, whatever else they are.
		{of(a, a), 9, 0, false}, {of(a, b, a), 9, 0, false}, {of(a, b, insertion(name(2, 1), 3, 0, "x")), 9, 0, false}, {of(a, b, c, deletion(name(1, 1), 9)), 9, 0, false}, {of(a, b, c, deletion(name(1, 3), 9)), 9, 14, true}, {of(a, b, c, deletion(name(2, 2), 9)), 9, 14, true}, {of(a, b, c, deletion(name(3, 1), 9)), 9, 14, true},
		// One that may not be: the first, one in the middle, the last.
		{of(api.Op{Name: name(9, 9)}, a, b), 9, 0, false}, {of(a, api.Op{Name: name(9, 9)}, b), 9, 0, false}, {of(a, b, api.Op{Name: name(9, 9)}), 9, 0, false}, {of(a, b, insertion(name(9, 9), -1, 0, "x")), 9, 0, false}, {of(a, insertion(name(17, 1), 1, 0, "x")), 9, 0, false}, {of(a, b, deletion(name(9, 9), 0, 11, 2)), 9, 0, false}, {of(a, b, deletion(name(9, 9), 0, 10, 2)), 9, 12, true}, {of(a, b, insertion(name(9, 9), 0, 13, "x")), 9, 0, false}, {of(a, b, insertion(name(9, 9), 0, 12, "x")), 9, 13, true},
	} {
		if got, ok := lists.Run(x.l, x.size); got != x.want || ok != x.ok {
			t.Errorf("Run(%v, %d): %d, %t, not %d, %t", shorts(x.l), x.size, got, ok, x.want, x.ok)
		}
	}
}

// three is a list upon 6: cells at 2 to 4, then some of them deleted and some others, then two cells among them, at 3.
func three() []api.Op {
	return of(insertion(name(1, 1), 1, 2, "abc"), deletion(name(2, 1), 2, 1, 2, 6, 1), insertion(name(3, 1), 3, 3, "xy"))
}

// P11.2: one behind a list, as it is written out.
func TestInclAll(t *testing.T) {
	n, long := name(4, 1), strings.Repeat("\u20ac", 200)
	for _, x := range []struct {
		a    api.Op
		l    []api.Op
		size int
		want api.Op
	}{
		// Behind none.
		{insertion(n, 4, 6, "q"), nil, 6, insertion(n, 4, 6, "q")}, {deletion(n, 4, 0, 6), []api.Op{}, 6, deletion(n, 4, 0, 6)}, {insertion(n, 0, 0, long), nil, 0, insertion(n, 0, 0, long)}, {deletion(n, 4, 0, maxCells), nil, maxCells, deletion(n, 4, 0, maxCells)},
		// Below the list's cells, at them, above them; in the order of Nums.
		{insertion(n, 4, 0, "q"), three(), 6, insertion(n, 4, 0, "q")}, {insertion(n, 4, 1, "q"), three(), 6, insertion(n, 4, 1, "q")}, {insertion(n, 4, 2, "q"), three(), 6, insertion(n, 4, 7, "q")}, {insertion(n, 4, 3, "q"), three(), 6, insertion(n, 4, 8, "q")}, {insertion(n, 4, 6, "q"), three(), 6, insertion(n, 4, 11, "q")}, {insertion(n, 0, 2, "q"), three(), 6, insertion(n, 0, 7, "q")},
		{insertion(name(9, 1), 1, 2, "q"), three(), 6, insertion(name(9, 1), 1, 7, "q")}, {insertion(name(1, 9), 1, 2, "q"), three(), 6, insertion(name(1, 9), 1, 7, "q")}, {insertion(name(9, 1), 2, 2, "q"), three(), 6, insertion(name(9, 1), 2, 7, "q")},
		// Its cells: those of one ahead come between, as long as they stood there; those of one behind stay.
		{deletion(n, 4, 0, 6), three(), 6, deletion(n, 4, 0, 2, 7, 4)}, {deletion(n, 4, 0, 2), three(), 6, deletion(n, 4, 0, 2)}, {deletion(n, 4, 2, 1), three(), 6, deletion(n, 4, 7, 1)}, {deletion(n, 4, 1, 1, 3, 2), three(), 6, deletion(n, 4, 1, 1, 8, 2)}, {deletion(n, 4), three(), 6, deletion(n, 4)},
		// Two lists' cells at one place: first the one, then the other.
		{deletion(n, 4, 0, 3), of(insertion(name(1, 1), 1, 1, "a"), insertion(name(2, 1), 2, 3, "b")), 3, deletion(n, 4, 0, 1, 2, 1, 4, 1)}, {deletion(n, 4, 0, 3), of(insertion(name(1, 1), 1, 1, "a"), insertion(name(2, 1), 2, 1, "b")), 3, deletion(n, 4, 0, 1, 3, 2)}, {deletion(n, 4, 0, 3), of(insertion(name(1, 1), 1, 0, "a"), insertion(name(2, 1), 2, 4, "b")), 3, deletion(n, 4, 1, 3)},
		// The first is before it, the second is not: it stands between them.
		{insertion(n, 2, 1, "q"), of(insertion(name(1, 1), 1, 1, "ab"), insertion(name(3, 1), 3, 3, "x")), 3, insertion(n, 2, 3, "q")}, {insertion(n, 2, 1, "q"), of(insertion(name(3, 1), 3, 1, "x"), insertion(name(1, 1), 1, 1, "ab")), 3, insertion(n, 2, 3, "q")}, {insertion(n, 0, 1, "q"), of(insertion(name(3, 1), 0, 1, "ab"), insertion(name(5, 1), 0, 3, "x")), 3, insertion(n, 0, 3, "q")}, {insertion(n, 0, 1, "q"), of(insertion(name(4, 2), 0, 1, "ab")), 3, insertion(n, 0, 1, "q")},
		// Behind deletions all is as it was.
		{insertion(n, 4, 2, "q"), of(deletion(name(1, 1), 1, 0, 6), deletion(name(2, 1), 2, 1, 2)), 6, insertion(n, 4, 2, "q")}, {deletion(n, 4, 2, 3), of(deletion(name(1, 1), 1, 0, 6), deletion(name(2, 1), 2)), 6, deletion(n, 4, 2, 3)},
		// As many cells as there may be.
		{insertion(n, 4, 6, "q"), three(), maxCells - 6, insertion(n, 4, 11, "q")}, {deletion(n, 4, 0, maxCells-5), three(), maxCells - 5, deletion(n, 4, 0, 2, 7, maxCells-7)}, {insertion(n, 4, maxCells-200, long), of(deletion(name(1, 1), 1, 0, 9)), maxCells - 200, insertion(n, 4, maxCells-200, long)}, {insertion(n, 4, 0, long), of(insertion(name(1, 1), 1, 0, long)), 0, insertion(n, 4, 200, long)},
	} {
		if got, err := lists.InclAll(x.a, x.l, x.size); !alike(got, x.want) || err != api.OK {
			t.Errorf("InclAll(%v, %v, %d): %v, %d, not %v", short(x.a), shorts(x.l), x.size, short(got), err, short(x.want))
		}
		holdsIncl(t, x.a, x.l, x.size)
	}
}

// P11.2: two that cross, as they are written out.
func TestCross(t *testing.T) {
	one, two, ins := name(1, 1), name(2, 1), insertion
	for _, x := range []struct {
		l, m, overM, overL []api.Op
		size               int
	}{
		// Either of none.
		{nil, nil, nil, nil, 0}, {nil, []api.Op{}, nil, nil, maxCells}, {three(), nil, three(), nil, 6}, {[]api.Op{}, three(), nil, three(), 6}, {nil, three(), nil, three(), maxCells - 5},
		// One and one, at one place: by Num, by 0, by names.
		{of(ins(two, 1, 1, "ab")), of(ins(one, 2, 1, "x")), of(ins(two, 1, 1, "ab")), of(ins(one, 2, 3, "x")), 3}, {of(ins(one, 0, 1, "ab")), of(ins(two, 9, 1, "x")), of(ins(one, 0, 2, "ab")), of(ins(two, 9, 1, "x")), 3}, {of(ins(two, 0, 1, "ab")), of(ins(one, 0, 1, "x")), of(ins(two, 0, 2, "ab")), of(ins(one, 0, 1, "x")), 3}, {of(ins(name(1, 2), 0, 1, "ab")), of(ins(name(1, 10), 0, 1, "x")), of(ins(name(1, 2), 0, 1, "ab")), of(ins(name(1, 10), 0, 3, "x")), 3},
		// One and several: what comes later in a list, is behind the other list as that is behind what comes ahead of it.
		{of(ins(one, 2, 1, "q")), of(ins(name(2, 1), 1, 1, "ab"), ins(name(2, 2), 3, 3, "c")), of(ins(one, 2, 3, "q")), of(ins(name(2, 1), 1, 1, "ab"), ins(name(2, 2), 3, 4, "c")), 3},
		{of(ins(one, 2, 1, "q")), of(ins(name(2, 1), 1, 1, "ab"), ins(name(2, 2), 3, 2, "c"), deletion(name(2, 3), 4, 0, 6)), of(ins(one, 2, 4, "q")), of(ins(name(2, 1), 1, 1, "ab"), ins(name(2, 2), 3, 2, "c"), deletion(name(2, 3), 4, 0, 4, 5, 2)), 3},
		{three(), of(deletion(name(4, 1), 4, 0, 6)), three(), of(deletion(name(4, 1), 4, 0, 2, 7, 4)), 6},
		{three(), of(ins(name(4, 1), 0, 1, "q"), ins(name(4, 2), 0, 3, "r")), of(ins(name(1, 1), 1, 3, "abc"), deletion(name(2, 1), 2, 2, 2, 8, 1), ins(name(3, 1), 3, 4, "xy")), of(ins(name(4, 1), 0, 1, "q"), ins(name(4, 2), 0, 8, "r")), 6},
		// Several and several, each with cells of its own that it goes on with.
		{of(ins(name(1, 1), 0, 1, "a"), ins(name(1, 2), 0, 2, "b"), ins(name(1, 3), 0, 3, "c")), of(ins(name(2, 1), 0, 1, "x"), ins(name(2, 2), 0, 2, "y")), of(ins(name(1, 1), 0, 1, "a"), ins(name(1, 2), 0, 2, "b"), ins(name(1, 3), 0, 3, "c")), of(ins(name(2, 1), 0, 4, "x"), ins(name(2, 2), 0, 5, "y")), 3},
		{of(ins(name(1, 1), 0, 1, "a"), ins(name(1, 2), 0, 1, "b")), of(ins(name(2, 1), 5, 1, "x"), ins(name(2, 2), 6, 1, "y")), of(ins(name(1, 1), 0, 3, "a"), ins(name(1, 2), 0, 3, "b")), of(ins(name(2, 1), 5, 1, "x"), ins(name(2, 2), 6, 1, "y")), 2},
		{of(deletion(name(1, 1), 1, 0, 2), ins(name(1, 2), 2, 1, "ab"), deletion(name(1, 3), 3, 2, 2)), of(deletion(name(2, 1), 4, 1, 2), ins(name(2, 2), 5, 2, "x")), of(deletion(name(1, 1), 1, 0, 2), ins(name(1, 2), 2, 1, "ab"), deletion(name(1, 3), 3, 2, 2)), of(deletion(name(2, 1), 4, 3, 2), ins(name(2, 2), 5, 4, "x")), 3},
		// As many cells as there may be.
		{three(), of(ins(name(4, 1), 4, 6, "qr")), three(), of(ins(name(4, 1), 4, 11, "qr")), maxCells - 7}, {three(), of(ins(name(4, 1), 4, 6, "q"), deletion(name(4, 2), 5, 6, 1), ins(name(4, 3), 6, 6, "r")), three(), of(ins(name(4, 1), 4, 11, "q"), deletion(name(4, 2), 5, 11, 1), ins(name(4, 3), 6, 11, "r")), maxCells - 7},
	} {
		if gotL, gotM, err := lists.Cross(x.l, x.m, x.size); !alikeAll(gotL, x.overM) || !alikeAll(gotM, x.overL) || err != api.OK {
			t.Errorf("Cross(%v, %v, %d): %v, %v, %d, not %v, %v", x.l, x.m, x.size, gotL, gotM, err, x.overM, x.overL)
		}
		holdsCross(t, x.l, x.m, x.size)
	}
}

// P11.3: one without the list that it is behind, as it is written out: it hangs on none.
func TestExclAll(t *testing.T) {
	n := name(4, 1)
	for _, x := range []struct {
		a    api.Op
		l    []api.Op
		size int
		want api.Op
	}{
		{insertion(n, 4, 6, "q"), nil, 6, insertion(n, 4, 6, "q")}, {deletion(n, 4, 0, 6), []api.Op{}, 6, deletion(n, 4, 0, 6)}, {deletion(n, 4, 0, maxCells), nil, maxCells, deletion(n, 4, 0, maxCells)},
		{insertion(n, 4, 0, "q"), three(), 6, insertion(n, 4, 0, "q")}, {insertion(n, 4, 1, "q"), three(), 6, insertion(n, 4, 1, "q")}, {insertion(n, 4, 7, "q"), three(), 6, insertion(n, 4, 2, "q")}, {insertion(n, 4, 8, "q"), three(), 6, insertion(n, 4, 3, "q")}, {insertion(n, 4, 11, "q"), three(), 6, insertion(n, 4, 6, "q")}, {insertion(name(9, 1), 1, 7, "q"), three(), 6, insertion(name(9, 1), 1, 2, "q")}, {insertion(name(1, 9), 1, 7, "q"), three(), 6, insertion(name(1, 9), 1, 2, "q")},
		{deletion(n, 4, 0, 2, 7, 4), three(), 6, deletion(n, 4, 0, 6)}, {deletion(n, 4, 0, 1, 8, 1), three(), 6, deletion(n, 4, 0, 1, 3, 1)}, {deletion(n, 4, 1, 1, 7, 1), three(), 6, deletion(n, 4, 1, 2)}, {deletion(n, 4), three(), 6, deletion(n, 4)},
		{deletion(n, 4, 0, 2), of(deletion(name(1, 1), 1, 0, 6), deletion(name(2, 1), 2, 1, 2)), 6, deletion(n, 4, 0, 2)}, {insertion(n, 0, 2, "q"), of(deletion(name(1, 1), 1, 0, 6), deletion(name(2, 1), 2, 1, 2)), 6, insertion(n, 0, 2, "q")},
		{insertion(n, 2, 3, "q"), of(insertion(name(1, 1), 1, 1, "ab"), insertion(name(3, 1), 3, 3, "x")), 3, insertion(n, 2, 1, "q")}, {insertion(n, 2, 3, "q"), of(insertion(name(3, 1), 3, 1, "x"), insertion(name(1, 1), 1, 1, "ab")), 3, insertion(n, 2, 1, "q")},
		{deletion(n, 4, 0, 2, 7, maxCells-7), three(), maxCells - 5, deletion(n, 4, 0, maxCells-5)}, {insertion(n, 4, maxCells-1, "q"), three(), maxCells - 6, insertion(n, 4, maxCells-6, "q")},
	} {
		if got, at, err := lists.ExclAll(x.a, x.l, x.size); !alike(got, x.want) || at != 0 || err != api.OK {
			t.Errorf("ExclAll(%v, %v, %d): %v, %d, %d, not %v", short(x.a), x.l, x.size, short(got), at, err, short(x.want))
		}
		holdsExcl(t, x.a, x.l, x.size)
	}
}

// P11.3: it hangs on one of the list: the last one on which it does so is told.
func TestExclAllLost(t *testing.T) {
	n := name(4, 1)
	four := append(three(), insertion(name(1, 2), 4, 0, "m"))
	for _, x := range []struct {
		a  api.Op
		l  []api.Op
		at int
	}{
		// On the first: the cells 2, 5 and 6 are its own.
		{insertion(n, 4, 6, "q"), three(), 0}, {deletion(n, 4, 2, 1), three(), 0}, {deletion(n, 4, 6, 1), three(), 0}, {deletion(n, 4, 0, 1, 5, 5), three(), 0}, {insertion(n, 0, 2, "q"), three(), 0}, {insertion(name(1, 2), 1, 2, "q"), three(), 0}, {insertion(name(1, 3), 0, 7, "q"), four, 0}, {deletion(n, 4, 6, 2), four, 0},
		// On the first, right behind it: had it been before that, it would stand ahead of it.
		{insertion(name(9, 1), 1, 4, "q"), of(insertion(n, 2, 3, "a")), 0}, {insertion(name(3, 1), 0, 4, "q"), of(insertion(n, 0, 3, "a")), 0},
		// On the third.
		{insertion(n, 4, 3, "q"), three(), 2}, {insertion(n, 4, 4, "q"), three(), 2}, {insertion(n, 2, 5, "q"), three(), 2}, {deletion(n, 4, 3, 1), three(), 2}, {deletion(n, 4, 4, 1), three(), 2}, {deletion(n, 4, 0, 11), three(), 2}, {insertion(n, 5, 4, "q"), four, 2}, {insertion(n, 5, 5, "q"), four, 2}, {deletion(n, 5, 3, 4), four, 2},
		// On the last of several, at the ends of the document.
		{insertion(n, 5, 0, "q"), four, 3}, {insertion(n, 3, 1, "q"), four, 3}, {deletion(n, 5, 0, 1), four, 3}, {deletion(n, 5, 0, 12), four, 3},
		// On the one in the middle.
		{deletion(n, 4, 5, 1), of(insertion(name(1, 1), 1, 0, "ab"), insertion(name(2, 1), 2, 4, "c"), insertion(name(3, 1), 3, 0, "x")), 1}, {deletion(n, 4, 1, 2, 5, 1), of(insertion(name(1, 1), 1, 0, "ab"), insertion(name(2, 1), 2, 4, "c"), insertion(name(3, 1), 3, 0, "x")), 1}, {deletion(n, 4, 2, 1), of(insertion(name(1, 1), 1, 0, "ab"), insertion(name(2, 1), 2, 4, "c"), insertion(name(3, 1), 3, 0, "x")), 0},
	} {
		if got, at, err := lists.ExclAll(x.a, x.l, 6); !alike(got, api.Op{}) || at != x.at || err != api.ErrLost {
			t.Errorf("ExclAll(%v, %v, 6): %v, %d, %d, not at %d", x.a, x.l, got, at, err, x.at)
		}
		holdsExcl(t, x.a, x.l, 6)
	}
}

// P11.4: one brought ahead, as it is written out.
func TestBring(t *testing.T) {
	ins := insertion
	a, b, c, d := ins(name(1, 1), 1, 2, "abc"), deletion(name(2, 1), 2, 0, 2, 5, 1), ins(name(3, 1), 3, 8, "xy"), ins(name(1, 2), 4, 1, "q")
	l := of(a, b, c, d)
	for _, x := range []struct {
		from, to int
		want     []api.Op
	}{
		// By no swap.
		{0, 0, l}, {1, 1, l}, {2, 2, l}, {3, 3, l},
		// By one.
		{1, 0, of(deletion(name(2, 1), 2, 0, 3), a, c, d)}, {2, 1, of(a, c, b, d)}, {3, 2, of(a, b, d, ins(name(3, 1), 3, 9, "xy"))},
		// By several, by all.
		{2, 0, of(ins(name(3, 1), 3, 5, "xy"), a, b, d)}, {3, 1, of(a, d, deletion(name(2, 1), 2, 0, 1, 2, 1, 6, 1), ins(name(3, 1), 3, 9, "xy"))}, {3, 0, of(d, ins(name(1, 1), 1, 3, "abc"), deletion(name(2, 1), 2, 0, 1, 2, 1, 6, 1), ins(name(3, 1), 3, 9, "xy"))},
	} {
		if got, err := lists.Bring(l, x.from, x.to, 6); !alikeAll(got, x.want) || err != api.OK {
			t.Errorf("Bring(.., %d, %d): %v, %d, not %v", x.from, x.to, got, err, x.want)
		}
		holdsBring(t, l, x.from, x.to, 6)
	}
}

// P11.4: places that are none, and one that hangs on those ahead of it: on the nearest, on one further ahead.
func TestBringRefused(t *testing.T) {
	l := of(insertion(name(1, 1), 1, 2, "abc"), deletion(name(2, 1), 2, 0, 6), insertion(name(3, 1), 3, 8, "xy"), deletion(name(2, 2), 4, 4, 1, 7, 1))
	for _, x := range []struct {
		from, to int
		err      api.Errno
	}{
		{-1, 0, api.ErrRange}, {-1, -1, api.ErrRange}, {4, 0, api.ErrRange}, {4, 4, api.ErrRange}, {5, 1, api.ErrRange}, {math.MinInt, 0, api.ErrRange}, {math.MaxInt, 0, api.ErrRange}, {math.MaxInt, math.MaxInt, api.ErrRange}, {math.MinInt, math.MinInt, api.ErrRange},
		{0, -1, api.ErrRange}, {3, -1, api.ErrRange}, {0, 1, api.ErrRange}, {1, 2, api.ErrRange}, {2, 3, api.ErrRange}, {3, 4, api.ErrRange}, {3, math.MinInt, api.ErrRange}, {3, math.MaxInt, api.ErrRange},
		{1, 0, api.ErrLost}, {3, 0, api.ErrLost}, {3, 1, api.OK}, {3, 2, api.OK}, {2, 0, api.OK}, {2, 1, api.OK}, {3, 3, api.OK}, {0, 0, api.OK},
	} {
		if got, err := lists.Bring(l, x.from, x.to, 6); err != x.err || err != api.OK && len(got) > 0 {
			t.Errorf("Bring(.., %d, %d): %v, %d, not %d", x.from, x.to, got, err, x.err)
		}
		holdsBring(t, l, x.from, x.to, 6)
	}
	// Among the cells of the one at 2, behind the one at 3.
	hung := append(slices.Clone(l), insertion(name(9, 1), 5, 9, "r"))
	for to, want := range []api.Errno{api.ErrLost, api.ErrLost, api.ErrLost, api.OK, api.OK} {
		if got, err := lists.Bring(hung, 4, to, 6); err != want || err != api.OK && len(got) > 0 {
			t.Errorf("Bring(.., 4, %d): %v, %d, not %d", to, got, err, want)
		}
		holdsBring(t, hung, 4, to, 6)
	}
	// On the nearest.
	hung = append(slices.Clone(l[:3]), deletion(name(9, 1), 5, 0, 1, 9, 1))
	for to, want := range []api.Errno{api.ErrLost, api.ErrLost, api.ErrLost, api.OK} {
		if got, err := lists.Bring(hung, 3, to, 6); err != want || err != api.OK && len(got) > 0 {
			t.Errorf("Bring(.., 3, %d): %v, %d, not %d", to, got, err, want)
		}
	}
	// A list of none has no place, whatever the size.
	for _, size := range []int{0, 7, maxCells} {
		for _, x := range [][2]int{{0, 0}, {-1, -1}, {1, 0}, {0, 1}} {
			for _, none := range [][]api.Op{nil, {}} {
				if got, err := lists.Bring(none, x[0], x[1], size); len(got) > 0 || err != api.ErrRange {
					t.Errorf("Bring of none, %d, %d, %d: %v, %d", x[0], x[1], size, got, err)
				}
			}
		}
	}
}

// few are operations of a name upon a small size: of some texts, of some numbers, of each run of places, and of every other one.
func few(n api.Name, size int, nums ...int) []api.Op {
	var l []api.Op
	for _, num := range nums {
		for at := range size + 1 {
			l = append(l, insertion(n, num, at, "a"), insertion(n, num, at, "\u00e9\U0001f642"))
		}
	}
	l = append(l, deletion(n, nums[0]))
	for from := range size {
		for long := range size - from {
			l = append(l, deletion(n, nums[from%len(nums)], from, long+1))
		}
	}
	if size > 2 {
		op := deletion(n, nums[0])
		op.Spans = each(0, size)
		l = append(l, op)
	}
	return l
}

// all are the lists of few operations upon a small size, one of each name.
func all(names []api.Name, size int, nums ...int) [][]api.Op {
	if len(names) == 0 {
		return [][]api.Op{nil}
	}
	var found [][]api.Op
	for _, op := range few(names[0], size, nums...) {
		for _, l := range all(names[1:], size+adds(op), nums...) {
			found = append(found, append(of(op), l...))
		}
	}
	return found
}

// P11.1 to P11.5: all lists of up to three upon small sizes.
func TestSmall(t *testing.T) {
	names := []api.Name{name(2, 1), name(2, 2), name(4, 1)}
	for size := range 3 {
		for n := range 4 - size/2 {
			for _, l := range all(names[:n], size, 2) {
				left, _ := run(l, size)
				holdsRun(t, l, size)
				for from := -1; from <= n; from++ {
					for to := -1; to <= n; to++ {
						holdsBring(t, l, from, to, size)
					}
				}
				for _, at := range []api.Name{name(1, 1), name(3, 1)} {
					for _, a := range few(at, size, 2, 3) {
						holdsIncl(t, a, l, size)
					}
					for _, a := range few(at, left, 2, 0) {
						holdsExcl(t, a, l, size)
					}
				}
			}
		}
	}
}

// P11.2, P11.5: all lists of up to two, some of three, that cross, by Num and by names.
func TestSmallCross(t *testing.T) {
	for size := range 3 {
		for n := range 3 {
			for k := range 4 - size {
				for _, l := range all([]api.Name{name(2, 5), name(2, 6)}[:n], size, 3) {
					for i, m := range all([]api.Name{name(1, 8), name(2, 7), name(3, 1)}[:k], size, 3) {
						if k < 3 || i%11 == 0 {
							holdsCross(t, l, m, size)
						}
					}
				}
			}
		}
	}
	for _, l := range all([]api.Name{name(2, 1), name(1, 1)}, 1, 1, 3, 0) {
		for _, m := range all([]api.Name{name(1, 2)}, 1, 1, 2, 0) {
			holdsCross(t, l, m, 1)
		}
	}
}

// P11.2: what there is room for, and one cell more.
func TestFull(t *testing.T) {
	text := func(n int) string { return strings.Repeat("\u20ac", n) }
	for _, x := range [][]int{{1}, {200}, {1, 1}, {200, 200}, {1, 200, 3}, {200, 0, 0, 1}, {0, 7}, {0, 7, 0, 0, 9, 0}, {5, 4, 3, 2, 1}} {
		var l []api.Op
		long := 0
		for i, n := range x {
			op := insertion(name(1+i%2, 1+i), i, i%3, text(n))
			if n == 0 {
				op = deletion(name(1+i%2, 1+i), i, i%3, 9)
			}
			l, long = append(l, op), long+n
		}
		for _, n := range []int{1, 2, 199, 200} {
			a := insertion(name(3, 1), 2, 1, text(n))
			if got, err := lists.InclAll(a, l, maxCells-long-n); got.Text != a.Text || err != api.OK {
				t.Errorf("%d behind %v: %v, %d", n, x, short(got), err)
			}
			for more := 1; more <= min(n, long); more++ {
				if got, err := lists.InclAll(a, l, maxCells-long-n+more); !alike(got, api.Op{}) || err != api.ErrFull {
					t.Errorf("%d behind %v: %v, %d", n, x, short(got), err)
				}
			}
			if got, err := lists.InclAll(deletion(name(3, 1), 2, 0, maxCells-long), l, maxCells-long); got.Kind != 2 || err != api.OK {
				t.Errorf("a deletion behind %v: %v, %d", x, short(got), err)
			}
			m := of(deletion(name(3, 2), 1, 0, 3), a, deletion(name(3, 3), 2, 0, 3), insertion(name(3, 4), 0, 5, "q"))
			holdsCross(t, l, m, maxCells-long-n-1)
			for more := 1; more <= min(n+1, long); more++ {
				if gotL, gotM, err := lists.Cross(l, m, maxCells-long-n-1+more); len(gotL) > 0 || len(gotM) > 0 || err != api.ErrFull {
					t.Errorf("%v and %d cross: %v, %v, %d", x, n, shorts(gotL), shorts(gotM), err)
				}
				holdsCross(t, l, m, maxCells-long-n-1+more)
			}
		}
	}
	// Only the last of the list is too much: what is ahead of it was done by then, and isn't told.
	l := of(insertion(name(1, 1), 1, 0, "a"), deletion(name(1, 2), 2, 0, 5), insertion(name(1, 3), 3, 0, text(200)))
	if got, err := lists.InclAll(insertion(name(2, 1), 0, 0, text(200)), l, maxCells-400); !alike(got, api.Op{}) || err != api.ErrFull {
		t.Error(short(got), err)
	}
	if gotL, gotM, err := lists.Cross(l, of(insertion(name(2, 1), 0, 0, text(200))), maxCells-400); len(gotL) > 0 || len(gotM) > 0 || err != api.ErrFull {
		t.Error(shorts(gotL), shorts(gotM), err)
	}
	// There is just room for what is brought ahead, as there was.
	wide, one := insertion(name(1, 3), 3, 2, text(200)), insertion(name(1, 1), 1, 5, "a")
	l = of(one, deletion(name(1, 2), 2, 2, 3), wide)
	one.At = 205
	want := of(wide, one, deletion(name(1, 2), 2, 202, 3))
	if got, err := lists.Bring(l, 2, 0, maxCells-201); !alikeAll(got, want) || err != api.OK {
		t.Error(shorts(got), err)
	}
	if got, err := lists.Bring(l, 2, 0, maxCells-200); len(got) > 0 || err != api.ErrArg {
		t.Error(shorts(got), err)
	}
}

// randomList makes a list upon a size, of a site, each of it at random.
func randomList(r *rand.Rand, site, n, size int, places ...int) []api.Op {
	var l []api.Op
	for i := range n {
		op := model.Picked(r.Intn, name(site+r.Intn(2), i+1), size, places...)
		l, size = append(l, op), size+adds(op)
		if op.Kind == 1 && r.Intn(3) == 0 {
			places = append(places, op.At, op.At+adds(op))
		}
	}
	return l
}

// P11.1 to P11.5: longer lists upon greater documents, some cells of which are gone.
func TestMany(t *testing.T) {
	r := rand.New(rand.NewSource(11))
	for i := range 1500 {
		size := []int{1, 10, 100, 1000}[i%4] + r.Intn(9)
		if i%50 == 0 {
			size = maxCells - 900 + r.Intn(300)
		}
		places := []int{r.Intn(size + 1), r.Intn(size + 1)}
		l, m := randomList(r, 1, r.Intn(9), size, places...), randomList(r, 3, r.Intn(9), size, places...)
		holdsRun(t, l, size)
		holdsCross(t, l, m, size)
		for _, a := range m[:min(len(m), 1)] {
			holdsIncl(t, a, l, size)
		}
		if left, ok := run(l, size); ok {
			for k := range 4 {
				holdsExcl(t, model.Picked(r.Intn, name(5, k+1), left, places...), l, size)
			}
		}
		for range 4 {
			holdsBring(t, l, r.Intn(len(l)+1), r.Intn(len(l)+1), size)
		}
	}
}

// P11.4, P11.5: of lists whose operations don't hang on one another any one is brought ahead to any place; with all of them brought so, they leave the same document, some cells of which were gone.
func TestFree(t *testing.T) {
	r := rand.New(rand.NewSource(12))
	for i := range 200 {
		size := []int{5, 30, 500}[i%3]
		doc := blank(size)
		doc[r.Intn(size)].Gone = true
		var l []api.Op
		for k := range 2 + i%9 {
			// What none of them knew of, behind all that came ahead of it.
			op, err := lists.InclAll(model.Picked(r.Intn, name(1+r.Intn(16), k+1), size, size/2), l, size)
			if err != api.OK {
				t.Fatal(err)
			}
			l = append(l, op)
		}
		turned := l
		for to := range len(l) {
			for from := to; from < len(l); from++ {
				holdsBring(t, l, from, to, size)
				if got, err := lists.Bring(l, from, to, size); err != api.OK || !alikeNames(got[to].Name, l[from].Name) {
					t.Fatalf("Bring(%v, %d, %d): %v, %d", l, from, to, got, err)
				}
			}
			var err api.Errno
			if turned, err = lists.Bring(turned, len(l)-1, to, size); err != api.OK {
				t.Fatalf("%v, the last one at %d: %d", l, to, err)
			}
		}
		sameCells(t, doc, l, turned)
		for k := range turned {
			if !alikeNames(turned[k].Name, l[len(l)-1-k].Name) {
				t.Fatalf("%v, turned round: %v", l, turned)
			}
		}
	}
}

// sizes are such as may be, and such as may not be.
var sizes = []int{math.MinInt, -maxCells, -1, 0, 1, 2, 6, 9, 10, maxCells - 7, maxCells - 5, maxCells - 1, maxCells, maxCells + 1, 2 * maxCells, maxNum, math.MaxInt - 200, math.MaxInt}

// P11.1 to P11.4: upon all sizes.
func TestSizes(t *testing.T) {
	ls := [][]api.Op{nil, {}, three(), of(deletion(name(1, 1), 0)), of(insertion(name(1, 1), 1, 0, "a")), of(insertion(name(1, 1), 1, maxCells-1, "a"), deletion(name(1, 2), 1, 0, maxCells)), of(deletion(name(1, 1), 1, 0, maxCells), deletion(name(1, 2), 1, 5, 3)), of(insertion(name(1, 1), 1, 0, "a"), insertion(name(1, 2), 1, 0, "bc"), deletion(name(1, 3), 1, 0, 3))}
	as := []api.Op{deletion(name(9, 1), 0), deletion(name(9, 1), 0, 0, 1), deletion(name(9, 1), 0, 0, maxCells), insertion(name(9, 1), 0, 0, "q"), insertion(name(9, 1), 0, 6, "qr"), insertion(name(9, 1), 0, maxCells-1, "q"), insertion(name(9, 1), 0, maxCells-5, "q")}
	for _, size := range sizes {
		for _, l := range ls {
			holdsRun(t, l, size)
			for _, a := range as {
				holdsIncl(t, a, l, size)
				holdsExcl(t, a, l, size)
				holdsCross(t, l, of(a), size)
			}
			holdsCross(t, l, nil, size)
			for from := -1; from < 4; from++ {
				for to := -1; to <= from+1; to++ {
					holdsBring(t, l, from, to, size)
				}
			}
		}
	}
}

// changes make an operation one that may not be, or one of another kind; some leave it so that it may be.
var changes = []func(op *api.Op){
	func(op *api.Op) {},
	func(op *api.Op) { *op = api.Op{} }, func(op *api.Op) { *op = api.Op{Name: op.Name} },
	func(op *api.Op) { op.Kind = 0 }, func(op *api.Op) { op.Kind = 3 }, func(op *api.Op) { op.Kind = 257 }, func(op *api.Op) { op.Kind = math.MinInt }, func(op *api.Op) { op.Kind = 3 - op.Kind },
	func(op *api.Op) { op.Name.Site = 0 }, func(op *api.Op) { op.Name.Site = -1 }, func(op *api.Op) { op.Name.Site = maxSites }, func(op *api.Op) { op.Name.Site = maxSites + 1 },
	func(op *api.Op) { op.Name.Seq = 0 }, func(op *api.Op) { op.Name.Seq = maxNum }, func(op *api.Op) { op.Name.Seq = maxNum + 1 }, func(op *api.Op) { op.Name.Seq = math.MinInt },
	func(op *api.Op) { op.Num = -1 }, func(op *api.Op) { op.Num = maxNum }, func(op *api.Op) { op.Num = maxNum + 1 }, func(op *api.Op) { op.Num = math.MaxInt },
	func(op *api.Op) { op.At = -1 }, func(op *api.Op) { op.At = 1 }, func(op *api.Op) { op.At = 6 }, func(op *api.Op) { op.At = 7 }, func(op *api.Op) { op.At = 11 }, func(op *api.Op) { op.At = 12 }, func(op *api.Op) { op.At = math.MinInt }, func(op *api.Op) { op.At = math.MaxInt },
	func(op *api.Op) { op.Text = "" }, func(op *api.Op) { op.Text = "x" }, func(op *api.Op) { op.Text = "\xff" }, func(op *api.Op) { op.Text = strings.Repeat("\u20ac", 200) }, func(op *api.Op) { op.Text = strings.Repeat("x", 201) },
	func(op *api.Op) { op.Spans = nil }, func(op *api.Op) { op.Spans = list(0, 6) }, func(op *api.Op) { op.Spans = list(0, 7) }, func(op *api.Op) { op.Spans = list(0, 12) }, func(op *api.Op) { op.Spans = list(2, 0) }, func(op *api.Op) { op.Spans = list(-1, 2) }, func(op *api.Op) { op.Spans = list(1, 2, 3, 1) }, func(op *api.Op) { op.Spans = list(1, math.MaxInt) }, func(op *api.Op) { op.Spans = list(math.MaxInt, 1) },
	func(op *api.Op) { op.Name = name(1, 1) }, func(op *api.Op) { op.Name = name(2, 1) }, func(op *api.Op) { op.Name = name(3, 1) }, func(op *api.Op) { op.Name = name(4, 1) },
}

// P11.1 to P11.4: lists one of whose operations may not be, or has the name of another one, at each place; and such beside lists.
func TestWrong(t *testing.T) {
	four := append(three(), insertion(name(4, 1), 0, 0, "z"))
	as := []api.Op{insertion(name(5, 1), 3, 4, "ab"), deletion(name(5, 1), 3, 0, 2), insertion(name(5, 1), 3, 12, "q")}
	for place := range four {
		for _, change := range changes {
			l := slices.Clone(four)
			change(&l[place])
			for _, size := range []int{-1, 5, 6, 7, maxCells - 6, maxCells - 5, maxCells} {
				holdsRun(t, l, size)
				holdsCross(t, l, of(as[0], deletion(name(5, 2), 0, 4, 3)), size)
				for _, a := range as {
					holdsIncl(t, a, l, size)
					holdsExcl(t, a, l, size)
				}
				for _, x := range [][2]int{{0, 0}, {1, 0}, {3, 2}, {3, 0}, {3, 3}, {4, 0}, {-1, 0}, {3, -1}, {2, 3}} {
					holdsBring(t, l, x[0], x[1], size)
				}
			}
		}
	}
	for _, a := range as {
		for _, change := range changes {
			change(&a)
			for _, size := range []int{-1, 6, 7, maxCells - 6, maxCells} {
				for n := range 4 {
					holdsIncl(t, a, four[:n], size)
					holdsExcl(t, a, four[:n], size)
					holdsCross(t, four[:n], of(deletion(name(6, 1), 0), a, insertion(name(6, 2), 0, 0, "q")), size)
				}
			}
		}
	}
}

// refused checks that all that is asked of one and a list is told to be wrong, and nothing beside it.
func refused(t *testing.T, a api.Op, l []api.Op, size int) {
	t.Helper()
	if op, err := lists.InclAll(a, l, size); !alike(op, api.Op{}) || err != api.ErrArg {
		t.Errorf("InclAll(%v, %v, %d): %v, %d", short(a), shorts(l), size, short(op), err)
	}
	if op, at, err := lists.ExclAll(a, l, size); !alike(op, api.Op{}) || at != 0 || err != api.ErrArg {
		t.Errorf("ExclAll(%v, %v, %d): %v, %d, %d", short(a), shorts(l), size, short(op), at, err)
	}
	for _, m := range [][]api.Op{of(a), of(deletion(name(15, 1), 0), a), of(a, deletion(name(15, 1), 0))} {
		if one, other, err := lists.Cross(l, m, size); len(one) > 0 || len(other) > 0 || err != api.ErrArg {
			t.Errorf("Cross(%v, %v, %d): %v, %v, %d", shorts(l), shorts(m), size, shorts(one), shorts(other), err)
		}
		if one, other, err := lists.Cross(m, l, size); len(one) > 0 || len(other) > 0 || err != api.ErrArg {
			t.Errorf("Cross(%v, %v, %d): %v, %v, %d", shorts(m), shorts(l), size, shorts(one), shorts(other), err)
		}
	}
}

// P11.2, P11.3: as they are written out: what may not be is told ahead of all else.
func TestWrongAsWritten(t *testing.T) {
	long := strings.Repeat("x", 200)
	a, none := insertion(name(4, 1), 4, 0, long), api.Op{Name: name(5, 1)}
	lost := insertion(name(4, 1), 4, 4, "q")
	for _, x := range []struct {
		a    api.Op
		l    []api.Op
		size int
	}{
		// The last one of the list may not be, or the first; there would be no room ahead of it, or a would hang on one behind it.
		{a, of(insertion(name(1, 1), 1, 0, long), none), maxCells - 200}, {a, of(none, insertion(name(1, 1), 1, 0, long)), maxCells - 200}, {a, of(insertion(name(1, 1), 1, 0, long), insertion(name(1, 1), 1, 0, "x")), maxCells - 300}, {lost, append(three(), none), 6}, {lost, append(of(none), three()...), 6}, {lost, append(three(), three()[0]), 6}, {lost, append(three(), deletion(name(6, 1), 0, 11, 1)), 6},
		// a may not be; the list is of none, or there would be no room.
		{none, nil, 6}, {none, three(), 6}, {api.Op{}, three(), 6}, {insertion(name(4, 1), 4, 0, long+"x"), three(), 6}, {insertion(name(4, 1), 4, 0, ""), three(), 6}, {insertion(name(4, 1), 4, 12, "x"), three(), 6}, {deletion(name(4, 1), 4, 11, 1), three(), 6}, {insertion(name(4, 1), 4, 7, "x"), nil, 6}, {deletion(name(4, 1), 4, 6, 1), nil, 6}, {insertion(name(4, 1), 4, 0, long), of(insertion(name(1, 1), 1, 0, "a")), maxCells - 199},
		// Its name is one of the list's: of the first, of one in the middle, of the last.
		{insertion(name(1, 1), 4, 0, "q"), three(), 6}, {insertion(name(2, 1), 4, 0, "q"), three(), 6}, {insertion(name(3, 1), 4, 0, "q"), three(), 6}, {deletion(name(3, 1), 0), three(), 6}, {three()[2], three(), 6}, {insertion(name(1, 1), 4, 0, long), of(insertion(name(2, 1), 1, 0, long), deletion(name(1, 1), 2)), maxCells - 300}, {insertion(name(1, 1), 4, 4, "q"), three(), 6},
		// There is no such size.
		{deletion(name(4, 1), 0), nil, -1}, {deletion(name(4, 1), 0), nil, maxCells + 1}, {deletion(name(4, 1), 0), nil, math.MinInt}, {deletion(name(4, 1), 0), nil, math.MaxInt}, {deletion(name(4, 1), 0), of(deletion(name(1, 1), 0)), -1}, {deletion(name(4, 1), 0), of(deletion(name(1, 1), 0)), maxCells + 1}, {insertion(name(4, 1), 0, 0, "x"), three(), -1}, {insertion(name(4, 1), 0, 0, "x"), three(), math.MaxInt},
	} {
		refused(t, x.a, x.l, x.size)
	}
	// One may be upon what the list leaves, and not ahead of it; and the other way round.
	above, above2 := insertion(name(4, 1), 4, 11, "q"), deletion(name(4, 1), 4, 0, 11)
	for _, op := range []api.Op{above, above2} {
		if got, err := lists.InclAll(op, three(), 6); !alike(got, api.Op{}) || err != api.ErrArg {
			t.Error(op, got, err)
		}
		if _, _, err := lists.ExclAll(op, three(), 6); err == api.ErrArg {
			t.Error(op, err)
		}
	}
	if got, err := lists.InclAll(a, of(insertion(name(1, 1), 1, 0, "a")), maxCells-200); !alike(got, api.Op{}) || err != api.ErrFull {
		t.Error(short(got), err)
	}
	if got, at, err := lists.ExclAll(a, of(insertion(name(1, 1), 1, 0, "a")), maxCells-200); !alike(got, api.Op{}) || at != 0 || err != api.ErrArg {
		t.Error(short(got), at, err)
	}
	// Names of which the site, or the Seq, alone is alike are unlike.
	for _, n := range []api.Name{name(1, 2), name(4, 1), name(2, 3)} {
		if _, err := lists.InclAll(insertion(n, 1, 0, "x"), three(), 6); err != api.OK {
			t.Error(n, err)
		}
	}
	// A name in both: the first, the last, one in the middle.
	for place := range three() {
		for at := range 3 {
			m := of(deletion(name(7, 1), 0), deletion(name(7, 2), 0), deletion(name(7, 3), 0))
			m[at].Name = three()[place].Name
			if one, other, err := lists.Cross(three(), m, 6); len(one) > 0 || len(other) > 0 || err != api.ErrArg {
				t.Error(m, one, other, err)
			}
			m[at].Name = name(1, 7)
			if one, other, err := lists.Cross(three(), m, 6); len(one) != 3 || len(other) != 3 || err != api.OK {
				t.Error(m, one, other, err)
			}
		}
	}
}

// P11.4: which error is told, where more than one would be.
func TestBringOrder(t *testing.T) {
	none := api.Op{Name: name(9, 9)}
	hung := append(three(), deletion(name(4, 1), 0, 3, 1))
	for _, x := range []struct {
		l        []api.Op
		from, to int
		size     int
		err      api.Errno
	}{
		{append(three(), none), 9, 0, 6, api.ErrArg}, {append(three(), none), 1, 0, 6, api.ErrArg}, {append(three(), none), 0, 0, 6, api.ErrArg}, {append(hung, none), 3, 0, 6, api.ErrArg}, {append(of(none), hung...), 4, 0, 6, api.ErrArg}, {append(three(), three()[0]), 2, 5, 6, api.ErrArg}, {hung, 3, 0, 1, api.ErrArg}, {hung, 3, 0, maxCells - 4, api.ErrArg}, {nil, 0, 0, -1, api.ErrArg}, {nil, 0, 0, maxCells + 1, api.ErrArg}, {nil, 5, 9, math.MaxInt, api.ErrArg},
		{hung, 3, -1, 6, api.ErrRange}, {hung, 3, 4, 6, api.ErrRange}, {hung, 4, 0, 6, api.ErrRange}, {hung, -1, 0, 6, api.ErrRange},
		{hung, 3, 0, 6, api.ErrLost}, {hung, 3, 2, 6, api.ErrLost}, {hung, 3, 0, maxCells - 5, api.ErrLost},
	} {
		if got, err := lists.Bring(x.l, x.from, x.to, x.size); len(got) > 0 || err != x.err {
			t.Errorf("Bring(%v, %d, %d, %d): %v, %d, not %d", x.l, x.from, x.to, x.size, got, err, x.err)
		}
	}
}

// within tells whether a text's bytes are some of those of another one, in memory.
func within(part, whole string) bool {
	at, from := uintptr(unsafe.Pointer(unsafe.StringData(part))), uintptr(unsafe.Pointer(unsafe.StringData(whole)))
	return part != "" && from <= at && at < from+uintptr(len(whole))
}

// roomy tells a list of operations with spare room behind it, and behind the spans of each, that is filled.
func roomy(l ...api.Op) []api.Op {
	var all []api.Op
	for _, op := range l {
		op.Spans = append(slices.Clone(op.Spans), list(-77, -77, -77, -77, -77, -77)...)[:len(op.Spans)]
		op.Text = strings.Clone(op.Text)
		all = append(all, op)
	}
	return append(all, deletion(name(-7, -7), -7, -7, -7), deletion(name(-7, -7), -7))[:len(l)]
}

// whole is a list with its spare room, and that of all spans in it, in memory of its own.
func whole(l []api.Op) []api.Op {
	l = slices.Clone(l[:cap(l)])
	for i := range l {
		l[i].Spans = slices.Clone(l[i].Spans[:cap(l[i].Spans)])
	}
	return l
}

// unshared checks that no two of lists share memory, nor any two of their operations.
func unshared(t *testing.T, all ...[]api.Op) {
	t.Helper()
	for i, l := range all {
		for k, m := range all[:i] {
			if model.Shared(l, m) {
				t.Errorf("the lists %d and %d share memory: %v, %v", k, i, l, m)
			}
		}
	}
	ops := slices.Concat(all...)
	for i, one := range ops {
		for _, other := range ops[i+1:] {
			if model.Shared(one.Spans, other.Spans) || within(one.Text, other.Text) || within(other.Text, one.Text) {
				t.Errorf("%v shares memory with %v", one, other)
			}
		}
	}
}

// Rule 5: what is handed in is not changed, its spare room neither, and what is told shares no memory with it, nor with what else is told.
func TestMemory(t *testing.T) {
	long := strings.Repeat("body", 20)
	tails := [][]api.Op{nil, of(insertion(name(4, 1), 4, 0, long), deletion(name(4, 2), 5, 0, 1, 2, 1, 4, 1)), of(deletion(name(4, 1), 4, 1, 2, 5, 1), deletion(name(4, 2), 4), insertion(name(4, 3), 0, 6, long)), of(deletion(name(4, 1), 4))}
	heads := [][]api.Op{nil, of(deletion(name(1, 1), 1, 1, 2, 4, 1)), of(insertion(name(1, 1), 1, 0, long)), of(insertion(name(1, 1), 1, 6, long+"x"), deletion(name(1, 2), 2, 1, 2, 4, 2), insertion(name(1, 3), 0, 2, long+"y")), of(deletion(name(1, 1), 1), deletion(name(1, 2), 2, 0, 6), insertion(name(1, 3), 1, 3, long))}
	for _, head := range heads {
		for _, tail := range tails {
			l, m := roomy(head...), roomy(tail...)
			wasL, wasM := whole(l), whole(m)
			overL, overM, err := lists.Cross(l, m, 6)
			if err != api.OK {
				t.Fatal(l, m, err)
			}
			answers := [][]api.Op{l, m, overL, overM}
			for _, a := range roomy(insertion(name(9, 1), 0, 0, long), insertion(name(9, 1), 9, 6, long), deletion(name(9, 1), 0, 0, 1, 2, 1, 4, 1), deletion(name(9, 1), 0)) {
				one, err := lists.InclAll(a, l, 6)
				if err != api.OK {
					t.Fatal(a, l, err)
				}
				handed := roomy(one)
				was := whole(handed)
				other, at, err := lists.ExclAll(handed[0], l, 6)
				if at != 0 || err != api.OK || !slices.EqualFunc(whole(handed), was, alike) {
					t.Errorf("%v, %d, %d; %v came to be %v", other, at, err, was, whole(handed))
				}
				answers = append(answers, of(a), of(one), handed, of(other))
			}
			both := roomy(append(slices.Clone(l), overM...)...)
			wasBoth := whole(both)
			for from := range both {
				for to := range from + 1 {
					brought, err := lists.Bring(both, from, to, 6)
					if err == api.OK {
						answers = append(answers, brought)
					} else if err != api.ErrLost {
						t.Error(both, from, to, err)
					}
				}
			}
			unshared(t, append(answers, both)...)
			for _, x := range []struct{ is, was []api.Op }{{l, wasL}, {m, wasM}, {both, wasBoth}} {
				if is := whole(x.is); !slices.EqualFunc(is, x.was, alike) {
					t.Errorf("%v came to be %v", x.was, is)
				}
			}
		}
	}
}

// Rule 6: what a call answers hangs on its arguments alone, whatever was asked between, and refused.
func TestNothingElse(t *testing.T) {
	l, a := three(), insertion(name(4, 1), 4, 6, "q")
	for range 3 {
		if op, err := lists.InclAll(a, l, 6); !alike(op, insertion(name(4, 1), 4, 11, "q")) || err != api.OK {
			t.Error(op, err)
		}
		if op, at, err := lists.ExclAll(a, l, 6); !alike(op, api.Op{}) || at != 0 || err != api.ErrLost {
			t.Error(op, at, err)
		}
		lists.ExclAll(insertion(name(4, 1), 4, 4, "q"), l, 6)
		lists.Cross(l, l, 6)
		lists.Bring(l, 2, 0, 6)
		if op, at, err := lists.ExclAll(insertion(name(4, 1), 4, 11, "q"), l, 6); !alike(op, a) || at != 0 || err != api.OK {
			t.Error(op, at, err)
		}
		if left, ok := lists.Run(l, 6); left != 11 || !ok {
			t.Error(left, ok)
		}
		lists.Run(append(l, l...), 6)
	}
}

// Rule 4: nil and empty are one and the same.
func TestNilIsEmpty(t *testing.T) {
	empty := three()
	empty[0].Spans, empty[2].Spans = []api.Span{}, []api.Span{}
	a, b := insertion(name(4, 1), 4, 6, "q"), insertion(name(4, 1), 4, 6, "q")
	b.Spans = []api.Span{}
	one, first := lists.InclAll(a, three(), 6)
	if other, err := lists.InclAll(b, empty, 6); !alike(one, other) || err != first {
		t.Error(one, other, err)
	}
	for _, l := range [][]api.Op{nil, {}} {
		for _, m := range [][]api.Op{nil, {}} {
			if one, other, err := lists.Cross(l, m, 6); len(one) > 0 || len(other) > 0 || err != api.OK {
				t.Error(one, other, err)
			}
		}
		if one, err := lists.InclAll(b, l, 6); !alike(one, a) || err != api.OK {
			t.Error(one, err)
		}
		if one, at, err := lists.ExclAll(b, l, 6); !alike(one, a) || at != 0 || err != api.OK {
			t.Error(one, at, err)
		}
		if one, other, err := lists.Cross(l, empty, 6); len(one) > 0 || !alikeAll(other, three()) || err != api.OK {
			t.Error(one, other, err)
		}
	}
	if l, err := lists.Bring(empty, 2, 1, 6); err != api.OK || len(l) != 3 {
		t.Error(l, err)
	}
}

// Lists of many: as long as histories are, and longer.
func TestLong(t *testing.T) {
	var l, m []api.Op
	for i := range 400 {
		l = append(l, insertion(name(1, i+1), i+1, i, "a"))
		m = append(m, insertion(name(2, i+1), 0, i/2, "b"), deletion(name(3, i+1), 0, i/3, 1))
	}
	holdsRun(t, l, 3)
	overM, overL, err := lists.Cross(l, m[:80], 3)
	if err != api.OK {
		t.Fatal(err)
	}
	sameCells(t, blank(3), slices.Concat(l, overL), slices.Concat(m[:80], overM))
	a := insertion(name(4, 1), 0, 2, "q")
	holdsIncl(t, a, l, 3)
	if op, err := lists.InclAll(a, l, 3); op.At != 402 || err != api.OK {
		t.Error(op, err)
	}
	if op, at, err := lists.ExclAll(insertion(name(4, 1), 0, 200, "q"), l, 3); !alike(op, api.Op{}) || at != 200 || err != api.ErrLost {
		t.Error(op, at, err)
	}
	both := slices.Concat(l, overL)
	brought, err := lists.Bring(both, 400, 0, 3)
	if err != api.OK || !alike(brought[0], m[0]) {
		t.Fatal(err)
	}
	sameCells(t, blank(3), both, brought)
	twice := slices.Concat(m, of(m[0]))
	if left, ok := lists.Run(m, 400); left != 800 || !ok {
		t.Error(left, ok)
	}
	if left, ok := lists.Run(twice, 400); left != 0 || ok {
		t.Error(left, ok)
	}
}
