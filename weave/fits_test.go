package weave_test

import (
	"slices"
	"strings"
	"testing"

	"foolscap/api"
	"foolscap/hist"
	"foolscap/model/hists"
	"foolscap/weave"
)

// Which of the chapter's words of what fits don't hold.
const (
	inTime, isNext, inOrder = "its Context is from From to Num", "its name is the next one", "no entry of its site has an edit with a greater Context"
)

// refused checks that nothing is told but an error.
func refused(t *testing.T, h hist.Hist, e api.Edit, want api.Errno) {
	t.Helper()
	if _, err := holds(t, h, e); err != want {
		t.Errorf("%v of %v: %d, not %d", shortEdit(e), hists.Brief(h), err, want)
	}
	if known, others, err := weave.Split(h, e); len(known) != 0 || len(others) != 0 || err != want {
		t.Errorf("Split of %v: %d", shortEdit(e), err)
	}
	if d, err := weave.Context(h, e); d != nil || err != want {
		t.Errorf("Context of %v: %d", shortEdit(e), err)
	}
}

// P14.1: what fits, each condition broken alone, and more than one.
func TestFits(t *testing.T) {
	// From 4, Num 12; the sites reach 3 2 5 1 2; the edits' Contexts are, of the site 1, 2 and 3, of the site 2: 2, of the site 4: 1. With some that are greater:
	h := numbered()
	h.List[0].Edit.Context, h.List[3].Edit.Context, h.List[1].Edit.Context = 7, 9, 4
	for _, x := range []struct {
		e     api.Edit
		words []string
	}{
		{writes(name(1, 4), 9, 0, "w"), nil}, {writes(name(1, 4), 12, 0, "w"), nil}, {writes(name(2, 3), 4, 0, "w"), nil}, {writes(name(3, 6), 4, 0, "w"), nil}, {writes(name(4, 2), 4, 0, "w"), nil}, {writes(name(5, 3), 12, 0, "w"), nil}, {writes(name(6, 1), 7, 0, "w"), nil}, {writes(name(maxSites, 1), 4, 0, "w"), nil},
		{deletes(name(1, 4), 9, 0, 1), nil}, {deletes(name(5, 3), 4, 2, 1), nil},
		// Contexts.
		{writes(name(2, 3), 3, 0, "w"), []string{inTime, inOrder}}, {writes(name(3, 6), 3, 0, "w"), []string{inTime}}, {writes(name(3, 6), 0, 0, "w"), []string{inTime}}, {writes(name(3, 6), 13, 0, "w"), []string{inTime}}, {writes(name(3, 6), maxNum, 0, "w"), []string{inTime}}, {deletes(name(6, 1), 3, 0, 1), []string{inTime}}, {deletes(name(6, 1), 13, 0, 1), []string{inTime}},
		// Names: of one that is listed; of one that Vector has; one too far.
		{writes(name(1, 3), 9, 0, "w"), []string{isNext}}, {writes(name(1, 2), 9, 0, "w"), []string{isNext}}, {writes(name(1, 1), 9, 0, "w"), []string{isNext}}, {writes(name(1, 5), 9, 0, "w"), []string{isNext}}, {writes(name(3, 5), 9, 0, "w"), []string{isNext}}, {writes(name(3, 1), 9, 0, "w"), []string{isNext}}, {writes(name(3, 7), 9, 0, "w"), []string{isNext}}, {writes(name(4, 1), 9, 0, "w"), []string{isNext}}, {writes(name(4, 3), 9, 0, "w"), []string{isNext}}, {writes(name(6, 2), 9, 0, "w"), []string{isNext}}, {writes(name(maxSites, 2), 9, 0, "w"), []string{isNext}}, {deletes(name(5, 2), 9, 0, 1), []string{isNext}}, {deletes(name(5, maxNum), 9, 0, 1), []string{isNext}},
		// Greater Contexts, of the last one of the site, and of one ahead of it.
		{writes(name(1, 4), 8, 0, "w"), []string{inOrder}}, {writes(name(1, 4), 7, 0, "w"), []string{inOrder}}, {writes(name(1, 4), 4, 0, "w"), []string{inOrder}}, {deletes(name(1, 4), 8, 0, 1), []string{inOrder}},
		// More than one.
		{writes(name(1, 3), 3, 0, "w"), []string{inTime, isNext, inOrder}}, {writes(name(1, 5), 13, 0, "w"), []string{inTime, isNext}}, {writes(name(1, 3), 8, 0, "w"), []string{isNext, inOrder}}, {deletes(name(1, 4), 1, 9, 99), []string{inTime, inOrder}},
	} {
		if got := hists.Unfit(h, x.e); !slices.Equal(got, x.words) {
			t.Errorf("the test is wrong: %v: %q, not %q", x.e, got, x.words)
		}
		if x.words != nil {
			refused(t, h, x.e, api.ErrOrder)
			continue
		}
		if _, err := holds(t, h, x.e); err == api.ErrOrder || err == api.ErrArg {
			t.Errorf("%v: %d", x.e, err)
		}
	}
	// The greater Context is one of an entry that isn't the last one of its site; alike ones fit.
	h.List[0].Edit.Context, h.List[3].Edit.Context = 9, 7
	refused(t, h, writes(name(1, 4), 8, 0, "w"), api.ErrOrder)
	refused(t, h, writes(name(1, 4), 7, 0, "w"), api.ErrOrder)
	h.List[3].Edit.Context = 9
	if _, err := weave.Weave(h, writes(name(1, 4), 9, 0, "w")); err == api.ErrOrder {
		t.Error("alike ones don't fit")
	}
	// From and Num alike.
	still := hist.Hist{Base: h.Base, Vector: h.Vector, From: 7, Num: 7}
	for context := range 10 {
		e := writes(name(3, 6), context, 1, "w")
		if context != 7 {
			refused(t, still, e, api.ErrOrder)
		} else if _, err := holds(t, still, e); err != api.OK {
			t.Error(err)
		}
	}
}

// P14.1: up to the greatest Seq, behind which there is no next one.
func TestLastSeq(t *testing.T) {
	h := hist.Hist{Vector: []int{maxNum - 1, maxNum}}
	h = woven(t, h, writes(name(1, maxNum), 0, 0, "w"))
	for _, site := range []int{1, 2} {
		refused(t, h, writes(name(site, maxNum), 1, 0, "w"), api.ErrOrder)
		refused(t, h, writes(name(site, maxNum+1), 1, 0, "w"), api.ErrArg)
	}
}

// P14.1: what may not be, first of all.
func TestMayNot(t *testing.T) {
	fine := writes(name(3, 6), 12, 0, "w")
	var edits []api.Edit
	add := func(do func(e *api.Edit)) {
		for _, e := range []api.Edit{fine, deletes(name(3, 6), 12, 0, 1)} {
			do(&e)
			edits = append(edits, e)
		}
	}
	for _, n := range huge {
		add(func(e *api.Edit) { e.Context = n })
		add(func(e *api.Edit) { e.At = n })
		add(func(e *api.Edit) { e.Len = n })
		add(func(e *api.Edit) { e.Kind = n })
		add(func(e *api.Edit) { e.Name.Site = n })
		add(func(e *api.Edit) { e.Name.Seq = n })
	}
	add(func(e *api.Edit) { e.Name.Site = 0 })
	add(func(e *api.Edit) { e.Name.Site = maxSites + 1 })
	add(func(e *api.Edit) { e.Name.Seq = 0 })
	add(func(e *api.Edit) { e.At = maxCells + 1 })
	add(func(e *api.Edit) { e.Kind = 0 })
	add(func(e *api.Edit) { e.Kind = 3 })
	add(func(e *api.Edit) { e.Kind = 3 - e.Kind })
	add(func(e *api.Edit) { e.Len, e.Text = 1-e.Len, strings.Repeat("w", e.Len) })
	add(func(e *api.Edit) { e.Text = "\xff" })
	add(func(e *api.Edit) { e.Text = strings.Repeat("w", maxText+1) })
	add(func(e *api.Edit) { e.Text += "\xed\xa0\x80" })
	add(func(e *api.Edit) { e.Len = maxCells + 1 })
	edits = append(edits, api.Edit{}, writes(name(3, 6), 12, 0, ""), deletes(name(3, 6), 12, 0, 0))
	last := numbered()
	last.Num = maxNum
	for _, e := range edits {
		for _, h := range []hist.Hist{numbered(), hists.Sample(), last, {}} {
			refused(t, h, e, api.ErrArg)
		}
	}
	// Histories: a few things each, that layer 13 knows of.
	for i, do := range []func(h *hist.Hist){
		func(h *hist.Hist) { h.From = 13 }, func(h *hist.Hist) { h.From = 5 }, func(h *hist.Hist) { h.From = -1 }, func(h *hist.Hist) { h.Num = 10 }, func(h *hist.Hist) { h.Num = maxNum + 1 }, func(h *hist.Hist) { h.Vector = nil }, func(h *hist.Hist) { h.Vector[0]++ }, func(h *hist.Hist) { h.Vector = append(h.Vector, 0) },
		func(h *hist.Hist) { h.Base[2].Off = -1 }, func(h *hist.Hist) { h.Base[0] = h.Base[1] }, func(h *hist.Hist) { h.Base = nil }, func(h *hist.Hist) { h.List[2].Op.At = 99 }, func(h *hist.Hist) { h.List[2].Op.Num = 0 }, func(h *hist.Hist) { h.List[3].Op.Num = 8 }, func(h *hist.Hist) { h.List[1].Edit.Len = 0 }, func(h *hist.Hist) { h.List[1].Edit.Name = h.List[0].Edit.Name }, func(h *hist.Hist) { h.List[1].Op.Spans = append(h.List[1].Op.Spans, api.Span{}) },
	} {
		for _, from := range []hist.Hist{numbered(), hists.Sample()} {
			h := hists.Clone(from)
			do(&h)
			if hists.May(h) {
				t.Fatal("the test is wrong:", i)
			}
			refused(t, h, fine, api.ErrArg)
			refused(t, h, writes(name(3, 6), 99, 0, "w"), api.ErrArg)
		}
	}
}

// P14.1: pending entries: one, all; ahead of what doesn't fit, and of the greatest Num.
func TestPending(t *testing.T) {
	pending := hist.Hist{List: entries(insertion(name(3, 1), 0, 0, "abc"))}
	for _, h := range []hist.Hist{hists.Sample(), pending, {Base: pending.Base, Num: maxNum, List: pending.List}} {
		site := 3
		next := hists.CountOf(hists.Reached(h), site) + 1
		for _, e := range []api.Edit{writes(name(site, next), h.Num, 0, "w"), writes(name(site, next-1), h.Num, 0, "w"), writes(name(site, next+9), 99, 0, "w"), writes(name(9, 1), h.Num, 99, "w"), deletes(name(9, 1), h.Num, 0, 1), deletes(name(9, 7), 1, 99, 99)} {
			refused(t, h, e, api.ErrState)
		}
		if cut := hist.Cut(h); cut.Num < maxNum {
			if _, err := holds(t, cut, writes(name(9, 1), h.Num, 0, "w")); err != api.OK {
				t.Error(err)
			}
		}
	}
}

// P14.1: up to the greatest Num; which error is told of what doesn't fit either, or is out of range.
func TestLastNum(t *testing.T) {
	for _, list := range [][]api.Entry{nil, numbered().List} {
		h := numbered()
		h.List = list
		next := hists.CountOf(hists.Reached(h), 1) + 1
		h.Num = maxNum - 1
		if x, err := holds(t, h, writes(name(1, next), maxNum-1, 0, "w")); err != api.OK || x.Op.Num != maxNum {
			t.Error(x, err)
		}
		refused(t, h, writes(name(1, next), maxNum, 0, "w"), api.ErrOrder)
		h.Num = maxNum
		for _, e := range []api.Edit{writes(name(1, next), maxNum, 0, "w"), writes(name(1, next), maxNum-1, 0, "w"), writes(name(1, next), 12, 0, "w"), writes(name(1, next), maxNum, 99, "w"), deletes(name(1, next), maxNum, 0, 1), deletes(name(1, next), maxNum, 0, 99)} {
			refused(t, h, e, api.ErrEnd)
		}
		for _, e := range []api.Edit{writes(name(1, next), 3, 0, "w"), writes(name(1, next-1), maxNum, 0, "w"), writes(name(1, next+1), maxNum, 0, "w")} {
			refused(t, h, e, api.ErrOrder)
		}
		refused(t, h, writes(name(1, next), maxNum+1, 0, "w"), api.ErrArg)
	}
	if x, err := holds(t, hist.Hist{From: maxNum - 1, Num: maxNum - 1}, writes(name(1, 1), maxNum-1, 0, "w")); err != api.OK || x.Op.Num != maxNum {
		t.Error(x, err)
	}
	refused(t, hist.Hist{From: maxNum, Num: maxNum}, writes(name(1, 1), maxNum, 0, "w"), api.ErrEnd)
}

// P14.1: entries that hang on such as the edit doesn't know: Bring's error, ahead of what is told of the edit itself.
func TestLost(t *testing.T) {
	h := hist.Hist{Num: 3, List: entries(insertion(name(1, 1), 1, 0, "abc"), insertion(name(2, 1), 2, 1, "d"), deletion(name(2, 2), 3, 1, 1))}
	h.List[1].Edit.Context, h.List[2].Edit.Context = 0, 0
	for _, x := range []struct {
		e    api.Edit
		want api.Errno
	}{
		{writes(name(2, 3), 0, 0, "w"), api.ErrLost}, {writes(name(2, 3), 0, 9, "w"), api.ErrLost}, {deletes(name(2, 3), 0, 0, 9), api.ErrLost}, {writes(name(2, 3), 1, 0, "w"), api.OK}, {writes(name(2, 3), 1, 9, "w"), api.ErrRange},
		{writes(name(3, 1), 0, 0, "w"), api.OK}, {writes(name(1, 2), 1, 0, "w"), api.OK}, {writes(name(1, 2), 2, 4, "w"), api.OK}, {writes(name(1, 2), 3, 4, "w"), api.ErrRange},
	} {
		if x.want == api.ErrLost {
			refused(t, h, x.e, x.want)
		} else if _, err := holds(t, h, x.e); err != x.want {
			t.Errorf("%v: %d, not %d", x.e, err, x.want)
		}
	}
	// What hangs is known, and so is what hangs on that; the first of them isn't.
	h.Num, h.List[1].Edit.Context = maxNum, 0
	refused(t, h, writes(name(2, 3), 0, 0, "w"), api.ErrEnd)
	h.Num = 3
	refused(t, h, writes(name(2, 4), 0, 0, "w"), api.ErrOrder)
}
