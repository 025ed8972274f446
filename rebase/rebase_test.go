package rebase_test

import (
	"math"
	"slices"
	"testing"

	"foolscap/api"
	"foolscap/hist"
	"foolscap/model"
	"foolscap/model/hists"
	"foolscap/rebase"
)

// The limits, as the chapters write them out.
const (
	maxText  = model.MaxText
	maxCells = model.MaxCells
	maxList  = model.MaxList
	maxSites = model.MaxSites
	maxNum   = model.MaxNum
)

// What the tests take from the model, in short.
var (
	name, insertion, deletion = model.Name, model.Insertion, model.Deletion
	alike, play               = model.Alike, model.Play
	cell, entries, brief      = hists.Cell, hists.Entries, hists.Brief
	clone, opsOf              = hists.Clone, hists.OpsOf
)

// huge are numbers far from all limits.
var huge = []int{math.MinInt, math.MinInt + 1, math.MinInt32, -maxCells, -1, maxNum + 1, 1 << 50, math.MaxInt - 1, math.MaxInt}

// writes makes an edit that inserts.
func writes(n api.Name, context, at int, text string) api.Edit {
	return api.Edit{Name: n, Context: context, Kind: api.Ins, At: at, Text: text}
}

// deletes makes an edit that deletes.
func deletes(n api.Name, context, at, long int) api.Edit {
	return api.Edit{Name: n, Context: context, Kind: api.Del, At: at, Len: long}
}

// shortEdit is an edit with no more than can be told.
func shortEdit(e api.Edit) api.Edit {
	e.Text = e.Text[:min(len(e.Text), 40)]
	return e
}

// step is what a call tells of a history and an edit.
type step struct {
	next hist.Hist
	op   api.Op
	own  bool
	err  api.Errno
}

// same tells whether all that was told is.
func (s step) same(other step) bool {
	return hists.Same(s.next, other.next) && alike(s.op, other.op) && s.own == other.own && s.err == other.err
}

// calls are those of the package that go a step with an edit, each as it is, and as the model has it.
func calls(h hist.Hist, e api.Edit) (got, want [3]step) {
	s := &got[0]
	s.next, s.op, s.err = rebase.Local(h, e)
	s = &got[1]
	s.next, s.op, s.err = rebase.Other(h, e)
	s = &got[2]
	s.next, s.op, s.own, s.err = rebase.Take(h, e)
	s = &want[0]
	s.next, s.op, s.err = hists.Local(h, e)
	s = &want[1]
	s.next, s.op, s.err = hists.Other(h, e)
	s = &want[2]
	s.next, s.op, s.own, s.err = hists.Take(h, e)
	return got, want
}

// cellsOf are the cells behind all entries of a history, by the model.
func cellsOf(h hist.Hist) []api.Cell {
	return play(h.Base, opsOf(h.List)...)
}

// holds checks all that is told of a history and an edit against the model, and that what is carried out brings the document to the new history's; it tells the errors of Local, Other and Take.
func holds(t *testing.T, h hist.Hist, e api.Edit) [3]api.Errno {
	t.Helper()
	was := clone(h)
	got, want := calls(h, e)
	var errs [3]api.Errno
	for i, s := range got {
		call := []string{"Local", "Other", "Take"}[i]
		if !s.same(want[i]) {
			t.Fatalf("%s(%v, %v): %v, %v, %t, %d, not %v, %v, %t, %d", call, brief(h), shortEdit(e), brief(s.next), model.Short(s.op), s.own, s.err, brief(want[i].next), model.Short(want[i].op), want[i].own, want[i].err)
		}
		if s.err == api.OK && !slices.Equal(cellsOf(s.next), carriedOut(s, cellsOf(h))) {
			t.Fatalf("%s(%v, %v): the document isn't the new history's", call, brief(h), shortEdit(e))
		}
		if s.err == api.OK && !hist.May(s.next) {
			t.Fatalf("%s(%v, %v): %v may not be: %v", call, brief(h), shortEdit(e), brief(s.next), hists.Broken(s.next))
		}
		errs[i] = s.err
	}
	holdsOwn(t, h)
	if !hists.Same(h, was) {
		t.Fatalf("%v came to be %v", brief(was), brief(h))
	}
	return errs
}

// carriedOut are the cells that a step leaves of a document: a site's own edit is carried out already.
func carriedOut(s step, doc []api.Cell) []api.Cell {
	if s.own {
		return doc
	}
	return play(doc, s.op)
}

// holdsOwn checks Own against the model, and tells its error.
func holdsOwn(t *testing.T, h hist.Hist) api.Errno {
	t.Helper()
	want, wantErr := hists.Own(h)
	got, err := rebase.Own(h)
	if !hists.Same(got, want) || err != wantErr {
		t.Fatalf("Own(%v): %v, %d, not %v, %d", brief(h), brief(got), err, brief(want), wantErr)
	}
	return err
}

// local tells a history with a site's own edits done in it, one by one.
func local(t *testing.T, h hist.Hist, l ...api.Edit) hist.Hist {
	t.Helper()
	for i, e := range l {
		if errs := holds(t, h, e); errs[0] != api.OK {
			t.Fatalf("Local, %d: %d", i, errs[0])
		}
		h, _, _ = rebase.Local(h, e)
	}
	return h
}

// taken tells a history with edits taken in that have the next numbers, one by one.
func taken(t *testing.T, h hist.Hist, l ...api.Edit) hist.Hist {
	t.Helper()
	for i, e := range l {
		if errs := holds(t, h, e); errs[2] != api.OK {
			t.Fatalf("Take, %d: %d", i, errs[2])
		}
		h, _, _, _ = rebase.Take(h, e)
	}
	return h
}

// abc is a history of nothing but abc.
func abc() hist.Hist {
	return hist.Hist{Base: []api.Cell{cell(16, 1, 0, 'a', false), cell(16, 1, 1, 'b', false), cell(16, 1, 2, 'c', false)}, Vector: append(make([]int, 15), 1)}
}

// textOf is the text that a history leaves.
func textOf(t *testing.T, h hist.Hist) string {
	t.Helper()
	d, err := hist.Replay(h, len(h.List))
	if err != api.OK {
		t.Fatal(err)
	}
	return d.Text()
}

// The chapter's example.
func TestExample(t *testing.T) {
	x := writes(name(1, 1), 0, 1, "x")
	h, op, err := rebase.Local(abc(), x)
	if err != api.OK || !alike(op, insertion(name(1, 1), 0, 1, "x")) || textOf(t, h) != "axbc" {
		t.Fatal(h, op, err)
	}
	y := writes(name(2, 1), 0, 1, "y")
	h, op, err = rebase.Other(h, y)
	if err != api.OK || !alike(op, insertion(name(2, 1), 1, 1, "y")) || textOf(t, h) != "ayxbc" || h.Num != 1 {
		t.Fatal(h, op, err)
	}
	want := abc()
	want.Num = 1
	want.List = []api.Entry{{Op: insertion(name(2, 1), 1, 1, "y"), Edit: y}, {Op: insertion(name(1, 1), 0, 2, "x"), Edit: x}}
	if !hists.Same(h, want) {
		t.Error(h)
	}
	h, err = rebase.Own(h)
	want.Num, want.List[1].Op.Num = 2, 2
	if err != api.OK || !hists.Same(h, want) {
		t.Error(h, err)
	}
}

// waiting is abc, in which the site 1 did three things that have no number yet: it wrote xy behind the a, deleted the b, wrote z at the end: axycz.
func waiting(t *testing.T) hist.Hist {
	t.Helper()
	h := local(t, abc(), writes(name(1, 1), 0, 1, "xy"), deletes(name(1, 2), 0, 3, 1), writes(name(1, 3), 0, 4, "z"))
	if want := entries(insertion(name(1, 1), 0, 1, "xy"), deletion(name(1, 2), 0, 3, 1), insertion(name(1, 3), 0, 5, "z")); !model.AlikeAll(hist.Ops(h), opsOf(want)) {
		t.Fatal(h)
	}
	return h
}

// P15.1: own edits, written out: at the beginning, in the middle, at the end; ahead of and behind what was deleted, and across it.
func TestLocalWritten(t *testing.T) {
	h := waiting(t) // of the places 0 to 5: a x y b c z, of which the b is Gone
	n := name(1, 4)
	for _, x := range []struct {
		e    api.Edit
		op   api.Op
		text string
	}{
		{writes(n, 0, 0, "w"), insertion(n, 0, 0, "w"), "waxycz"},
		{writes(n, 0, 1, "w"), insertion(n, 0, 1, "w"), "awxycz"},
		{writes(n, 0, 2, "w"), insertion(n, 0, 2, "w"), "axwycz"},
		{writes(n, 0, 3, "w"), insertion(n, 0, 4, "w"), "axywcz"},
		{writes(n, 0, 4, "w"), insertion(n, 0, 5, "w"), "axycwz"},
		{writes(n, 0, 5, "\u20acw"), insertion(n, 0, 6, "\u20acw"), "axycz\u20acw"},
		{deletes(n, 0, 0, 1), deletion(n, 0, 0, 1), "xycz"},
		{deletes(n, 0, 1, 2), deletion(n, 0, 1, 2), "acz"},
		{deletes(n, 0, 2, 2), deletion(n, 0, 2, 1, 4, 1), "axz"},
		{deletes(n, 0, 3, 1), deletion(n, 0, 4, 1), "axyz"},
		{deletes(n, 0, 4, 1), deletion(n, 0, 5, 1), "axyc"},
		{deletes(n, 0, 0, 5), deletion(n, 0, 0, 3, 4, 2), ""},
	} {
		next, op, err := rebase.Local(h, x.e)
		if err != api.OK || !alike(op, x.op) || textOf(t, next) != x.text {
			t.Errorf("%v: %v, %q, %d", x.e, op, textOf(t, next), err)
			continue
		}
		if last := next.List[3]; !alike(last.Op, x.op) || last.Edit != x.e || next.Num != 0 || !model.AlikeAll(opsOf(next.List[:3]), opsOf(h.List)) {
			t.Errorf("%v: %v", x.e, next)
		}
		holds(t, h, x.e)
	}
}

// P15.2: others' edits, written out: right ahead of what is pending, right behind it, across it, and of what was deleted meanwhile.
func TestOtherWritten(t *testing.T) {
	h := waiting(t)
	n := name(2, 1)
	xy, b, z := name(1, 1), name(1, 2), name(1, 3)
	for _, x := range []struct {
		e       api.Edit
		op      api.Op
		woven   api.Op
		pending []api.Op
		text    string
	}{
		{writes(n, 0, 0, "w"), insertion(n, 1, 0, "w"), insertion(n, 1, 0, "w"), []api.Op{insertion(xy, 0, 2, "xy"), deletion(b, 0, 4, 1), insertion(z, 0, 6, "z")}, "waxycz"},
		{writes(n, 0, 1, "w"), insertion(n, 1, 1, "w"), insertion(n, 1, 1, "w"), []api.Op{insertion(xy, 0, 2, "xy"), deletion(b, 0, 4, 1), insertion(z, 0, 6, "z")}, "awxycz"},
		{writes(n, 0, 2, "w"), insertion(n, 1, 4, "w"), insertion(n, 1, 2, "w"), []api.Op{insertion(xy, 0, 1, "xy"), deletion(b, 0, 3, 1), insertion(z, 0, 6, "z")}, "axywcz"},
		{writes(n, 0, 3, "pq"), insertion(n, 1, 5, "pq"), insertion(n, 1, 3, "pq"), []api.Op{insertion(xy, 0, 1, "xy"), deletion(b, 0, 3, 1), insertion(z, 0, 7, "z")}, "axycpqz"},
		{deletes(n, 0, 0, 3), deletion(n, 1, 0, 1, 3, 2), deletion(n, 1, 0, 3), opsOf(h.List), "xyz"},
		{deletes(n, 0, 0, 1), deletion(n, 1, 0, 1), deletion(n, 1, 0, 1), opsOf(h.List), "xycz"},
		{deletes(n, 0, 1, 1), deletion(n, 1, 3, 1), deletion(n, 1, 1, 1), opsOf(h.List), "axycz"},
		{deletes(n, 0, 2, 1), deletion(n, 1, 4, 1), deletion(n, 1, 2, 1), opsOf(h.List), "axyz"},
	} {
		next, op, err := rebase.Other(h, x.e)
		if err != api.OK || !alike(op, x.op) || textOf(t, next) != x.text || next.Num != 1 {
			t.Errorf("%v: %v, %q, %d", x.e, op, textOf(t, next), err)
			continue
		}
		if first := next.List[0]; !alike(first.Op, x.woven) || first.Edit != x.e || !model.AlikeAll(opsOf(next.List[1:]), x.pending) {
			t.Errorf("%v: %v", x.e, next)
		}
		for i, entry := range h.List {
			if next.List[1+i].Edit != entry.Edit {
				t.Errorf("%v: %v", x.e, next)
			}
		}
		holds(t, h, x.e)
	}
	// What others write into what the site has deleted stays.
	h = local(t, abc(), deletes(name(1, 1), 0, 0, 3))
	for at, want := range []api.Op{deletion(name(1, 1), 0, 1, 3), deletion(name(1, 1), 0, 0, 1, 2, 2), deletion(name(1, 1), 0, 0, 2, 3, 1), deletion(name(1, 1), 0, 0, 3)} {
		next, op, err := rebase.Other(h, writes(n, 0, at, "w"))
		if err != api.OK || !alike(op, insertion(n, 1, at, "w")) || !alike(next.List[1].Op, want) || textOf(t, next) != "w" {
			t.Error(at, next, op, err)
		}
	}
}

// P15.2: without anything pending, it is woven, and that is all; of nothing, too.
func TestOtherAlone(t *testing.T) {
	for _, h := range []hist.Hist{{}, abc(), hists.Numbered(), {From: 3, Num: 9}} {
		for _, e := range []api.Edit{writes(name(6, 1), h.Num, 0, "w"), writes(name(6, 1), h.From, 0, "w"), deletes(name(6, 1), h.Num, 0, 1)} {
			holds(t, h, e)
			want, wantErr := hists.Weave(h, e)
			next, op, err := rebase.Other(h, e)
			if err != wantErr || !alike(op, want.Op) {
				t.Errorf("%v: %v, %d", e, op, err)
			}
			if again, _ := hist.Add(h, want); err == api.OK && !hists.Same(next, again) {
				t.Errorf("%v: %v", e, next)
			}
		}
	}
}

// P15.3: numbers are given one by one, in order, to the first that is pending; nothing else changes.
func TestOwnWritten(t *testing.T) {
	h := waiting(t)
	h.Num, h.From = 7, 7
	for i := range 3 {
		next, err := rebase.Own(h)
		if err != api.OK || next.Num != 8+i || hist.Pending(next) != 2-i {
			t.Fatal(next, err)
		}
		want := clone(h)
		want.Num, want.List[i].Op.Num = 8+i, 8+i
		if !hists.Same(next, want) {
			t.Fatalf("%v, not %v", next, want)
		}
		holdsOwn(t, h)
		took, op, own, err := rebase.Take(h, h.List[i].Edit)
		if err != api.OK || !own || !alike(op, api.Op{}) || !hists.Same(took, want) {
			t.Fatal(took, op, own, err)
		}
		holds(t, h, h.List[i].Edit)
		h = next
	}
	if err := holdsOwn(t, h); err != api.ErrNone {
		t.Error(err)
	}
	if textOf(t, h) != "axycz" {
		t.Error(textOf(t, h))
	}
}

// P15.3: others' edits and own ones by turns.
func TestTakeWritten(t *testing.T) {
	h := waiting(t)
	own := []api.Edit{h.List[0].Edit, h.List[1].Edit, h.List[2].Edit}
	others := []api.Edit{writes(name(2, 1), 0, 1, "p"), deletes(name(3, 1), 0, 1, 2), writes(name(2, 2), 0, 3, "q"), writes(name(3, 2), 2, 1, "r")}
	for _, x := range []struct {
		order []api.Edit
		text  string
	}{
		{[]api.Edit{own[0], own[1], own[2], others[0], others[1], others[2]}, "axypqz"},
		{[]api.Edit{others[0], own[0], others[1], own[1], others[2], own[2]}, "apxyqz"},
		{[]api.Edit{others[0], others[1], others[3], own[0], own[1], own[2]}, "arpxyz"},
	} {
		h := h
		for _, e := range x.order {
			next, op, isOwn, err := rebase.Take(h, e)
			if err != api.OK || isOwn != (e.Name.Site == 1) || isOwn != (op.Kind == 0) || next.Num != h.Num+1 {
				t.Fatal(next, op, isOwn, err)
			}
			h = taken(t, h, e)
		}
		if textOf(t, h) != x.text || hist.Pending(h) != 0 {
			t.Errorf("%v: %q, not %q", x.order, textOf(t, h), x.text)
		}
	}
}
