package weave_test

import (
	"math"
	"slices"
	"testing"

	"foolscap/api"
	"foolscap/hist"
	"foolscap/model"
	"foolscap/model/hists"
	"foolscap/weave"
)

// The limits, as the chapters write them out.
const (
	maxText  = model.MaxText
	maxCells = model.MaxCells
	maxList  = model.MaxList
	maxSites = model.MaxSites
	maxNum   = model.MaxNum
)

// What the tests take from the model, in short.
var (
	list, name, insertion, deletion = model.List, model.Name, model.Insertion, model.Deletion
	alike, alikeAll, sameSpans      = model.Alike, model.AlikeAll, model.SameSpans
	cell, entry, entries            = hists.Cell, hists.Entry, hists.Entries
)

// huge are numbers far from all limits.
var huge = []int{math.MinInt, math.MinInt + 1, math.MinInt32, -maxCells, -1, maxNum + 1, 1 << 50, math.MaxInt - 1, math.MaxInt}

// writes makes an edit that inserts.
func writes(n api.Name, context, at int, text string) api.Edit {
	return api.Edit{Name: n, Context: context, Kind: api.Ins, At: at, Text: text}
}

// deletes makes an edit that deletes.
func deletes(n api.Name, context, at, long int) api.Edit {
	return api.Edit{Name: n, Context: context, Kind: api.Del, At: at, Len: long}
}

// sameEntry tells whether all fields of two entries are alike, one by one.
func sameEntry(a, b api.Entry) bool {
	return hists.AlikeEntries(a, b)
}

// shortEdit is an edit with no more than can be told.
func shortEdit(e api.Edit) api.Edit {
	e.Text = e.Text[:min(len(e.Text), 40)]
	return e
}

// shortOps are operations with no more than can be told.
func shortOps(l []api.Op) []api.Op {
	return model.Shorts(l)
}

// holds checks all that is told of an edit in a history against the model, and tells what came of it.
func holds(t *testing.T, h hist.Hist, e api.Edit) (api.Entry, api.Errno) {
	t.Helper()
	was := hists.Clone(h)
	wantKnown, wantOthers, wantErr := hists.Split(h, e)
	known, others, err := weave.Split(h, e)
	if !alikeAll(known, wantKnown) || !alikeAll(others, wantOthers) || err != wantErr {
		t.Fatalf("Split(%v, %v): %v, %v, %d, not %v, %v, %d", hists.Brief(h), shortEdit(e), shortOps(known), shortOps(others), err, shortOps(wantKnown), shortOps(wantOthers), wantErr)
	}
	wantCells, wantErr := hists.Context(h, e)
	d, err := weave.Context(h, e)
	if err != wantErr || !slices.Equal(d.Cells(), wantCells) || (d == nil) != (wantErr != api.OK) {
		t.Fatalf("Context(%v, %v): %q, %d, not %v, %d", hists.Brief(h), shortEdit(e), d.Text(), err, wantCells, wantErr)
	}
	wantOp, wantErr := hists.Form(h, e)
	op, err := weave.Form(h, e)
	if !alike(op, wantOp) || err != wantErr {
		t.Fatalf("Form(%v, %v): %v, %d, not %v, %d", hists.Brief(h), shortEdit(e), model.Short(op), err, model.Short(wantOp), wantErr)
	}
	want, wantErr := hists.Weave(h, e)
	got, err := weave.Weave(h, e)
	if !sameEntry(got, want) || err != wantErr {
		t.Fatalf("Weave(%v, %v): %v, %d, not %v, %d", hists.Brief(h), shortEdit(e), model.Short(got.Op), err, model.Short(want.Op), wantErr)
	}
	if !hists.Same(h, was) {
		t.Fatalf("%v came to be %v", hists.Brief(was), hists.Brief(h))
	}
	return got, err
}

// numbered is a history as they come, of several sites, none pending: Num 12, the numbers 5, 7, 8 and 11, twelve cells, of these six live.
func numbered() hist.Hist {
	return hists.Numbered()
}

// abc is a history of nothing but abc.
func abc() hist.Hist {
	return hist.Hist{Base: []api.Cell{cell(16, 1, 0, 'a', false), cell(16, 1, 1, 'b', false), cell(16, 1, 2, 'c', false)}, Vector: append(make([]int, 15), 1)}
}

// woven tells a history with edits woven into it, one by one.
func woven(t *testing.T, h hist.Hist, l ...api.Edit) hist.Hist {
	t.Helper()
	for i, e := range l {
		x, err := holds(t, h, e)
		if err != api.OK {
			t.Fatalf("the edit %d: %d", i, err)
		}
		h, err = hist.Add(h, x)
		if err != api.OK {
			t.Fatalf("the entry %d: %d", i, err)
		}
	}
	return h
}

// textOf is the text that a history leaves.
func textOf(t *testing.T, h hist.Hist) string {
	t.Helper()
	d, err := hist.Replay(h, len(h.List))
	if err != api.OK {
		t.Fatal(err)
	}
	return d.Text()
}

// The chapter's example.
func TestExample(t *testing.T) {
	h := woven(t, abc(), writes(name(1, 1), 0, 1, "x"))
	e := writes(name(2, 1), 0, 1, "y")
	got, err := weave.Weave(h, e)
	if err != api.OK || !alike(got.Op, insertion(name(2, 1), 2, 2, "y")) || got.Edit != e {
		t.Error(got, err)
	}
	if text := textOf(t, woven(t, h, e)); text != "axybc" {
		t.Error(text)
	}
}

// written is abc, into which xy was woven, what deletes a and b, that knew nothing of it, and behind that z and q, that knew xy and their own site's alone.
func written(t *testing.T) hist.Hist {
	t.Helper()
	return woven(t, abc(), writes(name(1, 1), 0, 1, "xy"), deletes(name(2, 1), 0, 0, 2), writes(name(1, 2), 1, 3, "z"), writes(name(2, 2), 1, 2, "q"))
}

// P14.1, P14.2: what is told of edits that know nothing, all, and some of what stands behind that which they don't know, written out.
func TestWritten(t *testing.T) {
	h := written(t)
	xy, ab, z, q := insertion(name(1, 1), 1, 1, "xy"), deletion(name(2, 1), 2, 0, 1, 3, 1), insertion(name(1, 2), 3, 3, "z"), insertion(name(2, 2), 4, 5, "q")
	if got := hist.Ops(h); !alikeAll(got, []api.Op{xy, ab, z, q}) || textOf(t, h) != "xyzqc" {
		t.Fatal(got, textOf(t, h))
	}
	one, two, three := name(1, 3), name(2, 3), name(3, 1)
	// Known alone: the site 1's z comes ahead of what deletes a and b; the site 2's q ahead of z.
	ofOne, notOfOne := []api.Op{xy, z}, []api.Op{deletion(name(2, 1), 2, 0, 1, 4, 1), q}
	ofTwo, notOfTwo := []api.Op{xy, ab, insertion(name(2, 2), 4, 4, "q")}, []api.Op{z}
	all := []api.Op{xy, ab, z, q}
	for _, x := range []struct {
		e             api.Edit
		known, others []api.Op
		context       string
		form, woven   api.Op
	}{
		{writes(one, 1, 0, "w"), ofOne, notOfOne, "axyzbc", insertion(one, 5, 0, "w"), insertion(one, 5, 0, "w")},
		{writes(one, 1, 3, "w"), ofOne, notOfOne, "axyzbc", insertion(one, 5, 3, "w"), insertion(one, 5, 3, "w")},
		{writes(one, 1, 5, "w"), ofOne, notOfOne, "axyzbc", insertion(one, 5, 5, "w"), insertion(one, 5, 6, "w")},
		{writes(one, 1, 6, "w"), ofOne, notOfOne, "axyzbc", insertion(one, 5, 6, "w"), insertion(one, 5, 7, "w")},
		{deletes(one, 1, 2, 3), ofOne, notOfOne, "axyzbc", deletion(one, 5, 2, 3), deletion(one, 5, 2, 3)},
		{deletes(one, 1, 4, 2), ofOne, notOfOne, "axyzbc", deletion(one, 5, 4, 2), deletion(one, 5, 4, 1, 6, 1)},
		{deletes(two, 1, 0, 2), ofTwo, notOfTwo, "xyqc", deletion(two, 5, 1, 2), deletion(two, 5, 1, 2)},
		{deletes(two, 1, 1, 3), ofTwo, notOfTwo, "xyqc", deletion(two, 5, 2, 1, 4, 2), deletion(two, 5, 2, 1, 5, 2)},
		{writes(two, 1, 2, "w"), ofTwo, notOfTwo, "xyqc", insertion(two, 5, 4, "w"), insertion(two, 5, 5, "w")},
		{writes(two, 1, 1, "w"), ofTwo, notOfTwo, "xyqc", insertion(two, 5, 2, "w"), insertion(two, 5, 2, "w")},
		{writes(two, 2, 2, "w"), ofTwo, notOfTwo, "xyqc", insertion(two, 5, 4, "w"), insertion(two, 5, 5, "w")},
		{writes(two, 3, 2, "w"), all, nil, "xyzqc", insertion(two, 5, 3, "w"), insertion(two, 5, 3, "w")},
		{writes(three, 0, 1, "w"), nil, all, "abc", insertion(three, 5, 1, "w"), insertion(three, 5, 4, "w")},
		{deletes(three, 0, 0, 3), nil, all, "abc", deletion(three, 5, 0, 3), deletion(three, 5, 0, 1, 4, 1, 6, 1)},
		{writes(three, 2, 3, "w"), all[:2], all[2:], "xyc", insertion(three, 5, 5, "w"), insertion(three, 5, 7, "w")},
		{writes(three, 1, 3, "w"), all[:1], all[1:], "axybc", insertion(three, 5, 3, "w"), insertion(three, 5, 4, "w")},
		{deletes(three, 4, 0, 5), all, nil, "xyzqc", deletion(three, 5, 1, 3, 5, 2), deletion(three, 5, 1, 3, 5, 2)},
		{writes(three, 4, 5, "w"), all, nil, "xyzqc", insertion(three, 5, 7, "w"), insertion(three, 5, 7, "w")},
	} {
		known, others, err := weave.Split(h, x.e)
		if !alikeAll(known, x.known) || !alikeAll(others, x.others) || err != api.OK {
			t.Errorf("Split of %v: %v, %v, %d", x.e, known, others, err)
		}
		if d, err := weave.Context(h, x.e); d.Text() != x.context || err != api.OK {
			t.Errorf("Context of %v: %q, %d", x.e, d.Text(), err)
		}
		if op, err := weave.Form(h, x.e); !alike(op, x.form) || err != api.OK {
			t.Errorf("Form of %v: %v, %d", x.e, op, err)
		}
		if got, err := weave.Weave(h, x.e); !alike(got.Op, x.woven) || got.Edit != x.e || err != api.OK {
			t.Errorf("Weave of %v: %v, %d", x.e, got, err)
		}
		holds(t, h, x.e)
	}
}

// P14.2: At and Len up to what there is in the context, which is neither the document behind all nor that ahead of it.
func TestRange(t *testing.T) {
	h := written(t)
	for _, x := range []struct {
		name          api.Name
		context, live int
	}{
		{name(1, 3), 1, 6}, {name(1, 3), 2, 4}, {name(1, 3), 4, 5}, {name(2, 3), 1, 4}, {name(2, 3), 4, 5}, {name(3, 1), 0, 3}, {name(3, 1), 1, 5}, {name(3, 1), 2, 3}, {name(3, 1), 3, 4}, {name(3, 1), 4, 5},
	} {
		for at := range 9 {
			want := api.OK
			if at > x.live {
				want = api.ErrRange
			}
			if _, err := holds(t, h, writes(x.name, x.context, at, "w")); err != want {
				t.Errorf("%v, %d: an insertion at %d: %d", x.name, x.context, at, err)
			}
			for long := 1; long < 9; long++ {
				want := api.OK
				if at+long > x.live {
					want = api.ErrRange
				}
				if _, err := holds(t, h, deletes(x.name, x.context, at, long)); err != want {
					t.Errorf("%v, %d: a deletion of %d at %d: %d", x.name, x.context, long, at, err)
				}
			}
		}
		for _, n := range []int{maxCells - 1, maxCells} {
			for _, e := range []api.Edit{writes(x.name, x.context, n, "w"), deletes(x.name, x.context, n, 1), deletes(x.name, x.context, 0, n), deletes(x.name, x.context, n, n), deletes(x.name, x.context, x.live, n)} {
				if _, err := holds(t, h, e); err != api.ErrRange {
					t.Errorf("%v: %d", e, err)
				}
			}
		}
	}
	// Of nothing, and of what is Gone alone.
	for _, h := range []hist.Hist{{}, {Base: []api.Cell{cell(1, 1, 0, 'a', true)}, Vector: []int{1}}} {
		for at, want := range []api.Errno{api.OK, api.ErrRange} {
			if x, err := holds(t, h, writes(name(2, 1), 0, at, "w")); err != want || err == api.OK && x.Op.At != len(h.Base) {
				t.Error(at, x, err)
			}
			if _, err := holds(t, h, deletes(name(2, 1), 0, at, 1)); err != api.ErrRange {
				t.Error(at, err)
			}
		}
	}
}

// P14.2: the number is one above Num, though numbers were passed that have no entry; and Context is counted by numbers, not by entries.
func TestNumbers(t *testing.T) {
	h := abc()
	h.From, h.Num = 3, 6
	h = woven(t, h, writes(name(1, 1), 5, 0, "x"))
	for range 4 {
		h, _ = hist.Pass(h)
	}
	h = woven(t, h, writes(name(2, 1), 6, 0, "y"))
	if h.Num != 12 || h.List[0].Op.Num != 7 || h.List[1].Op.Num != 12 {
		t.Fatal(h)
	}
	for context, want := range []string{3: "abc", 4: "abc", 6: "abc", 7: "xabc", 8: "xabc", 11: "xabc", 12: "xyabc"} {
		e := writes(name(3, 1), context, 0, "z")
		if want == "" {
			continue
		}
		if d, err := weave.Context(h, e); err != api.OK || d.Text() != want {
			t.Errorf("Context %d: %q, %d", context, d.Text(), err)
		}
		if x, err := holds(t, h, e); err != api.OK || x.Op.Num != 13 {
			t.Error(context, x, err)
		}
	}
}
