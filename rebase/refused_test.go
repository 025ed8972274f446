package rebase_test

import (
	"slices"
	"strings"
	"testing"

	"foolscap/api"
	"foolscap/hist"
	"foolscap/model/hists"
	"foolscap/rebase"
)

// refused checks which errors are told by Local, Other and Take, and that nothing is told beside one.
func refused(t *testing.T, h hist.Hist, e api.Edit, want [3]api.Errno) {
	t.Helper()
	if errs := holds(t, h, e); errs != want {
		t.Errorf("%v of %v: %d, not %d", shortEdit(e), brief(h), errs, want)
	}
	got, _ := calls(h, e)
	for i, s := range got {
		if s.err != api.OK && !s.same(step{err: s.err}) {
			t.Errorf("%v of %v, call %d: %v", shortEdit(e), brief(h), i, s)
		}
	}
}

// Which of the chapter's words of what goes on don't hold.
const (
	isNow, isNext, isAlone = "its Context is Num", "its name is the next one", "no entry of another site is pending"
)

// P15.1: what goes on, each condition broken alone, and more than one.
func TestLate(t *testing.T) {
	// Num 12; the sites reach 3 2 5 1 2; the site 3's two entries are pending.
	h := hists.Sample()
	// The reach with what is pending.
	for _, x := range []struct {
		e     api.Edit
		words []string
	}{
		{writes(name(3, 8), 12, 0, "w"), nil}, {deletes(name(3, 8), 12, 0, 1), nil}, {writes(name(3, 8), 12, 9, "w"), nil},
		// Contexts below Num, and above it.
		{writes(name(3, 8), 11, 0, "w"), []string{isNow}}, {writes(name(3, 8), 13, 0, "w"), []string{isNow}}, {writes(name(3, 8), 0, 0, "w"), []string{isNow}}, {writes(name(3, 8), 4, 0, "w"), []string{isNow}}, {writes(name(3, 8), maxNum, 0, "w"), []string{isNow}}, {deletes(name(3, 8), 11, 0, 1), []string{isNow}}, {deletes(name(3, 8), 13, 0, 1), []string{isNow}},
		// Names: of one that is pending; of one that Vector has; one too far.
		{writes(name(3, 7), 12, 0, "w"), []string{isNext}}, {writes(name(3, 6), 12, 0, "w"), []string{isNext}}, {writes(name(3, 5), 12, 0, "w"), []string{isNext}}, {writes(name(3, 1), 12, 0, "w"), []string{isNext}}, {writes(name(3, 9), 12, 0, "w"), []string{isNext}}, {writes(name(3, maxNum), 12, 0, "w"), []string{isNext}}, {deletes(name(3, 9), 12, 0, 1), []string{isNext}},
		// Other sites' next ones.
		{writes(name(1, 4), 12, 0, "w"), []string{isAlone}}, {writes(name(2, 3), 12, 0, "w"), []string{isAlone}}, {writes(name(4, 2), 12, 0, "w"), []string{isAlone}}, {writes(name(6, 1), 12, 0, "w"), []string{isAlone}}, {writes(name(maxSites, 1), 12, 0, "w"), []string{isAlone}}, {deletes(name(5, 3), 12, 0, 1), []string{isAlone}},
		// More than one.
		{writes(name(3, 9), 11, 0, "w"), []string{isNow, isNext}}, {writes(name(1, 4), 13, 0, "w"), []string{isNow, isAlone}}, {writes(name(1, 5), 12, 0, "w"), []string{isNext, isAlone}}, {deletes(name(1, 3), 1, 99, 99), []string{isNow, isNext, isAlone}},
	} {
		if got := hists.Late(h, x.e); !slices.Equal(got, x.words) {
			t.Errorf("the test is wrong: %v: %q, not %q", x.e, got, x.words)
		}
		want := api.OK
		if x.words != nil {
			want = api.ErrOrder
		} else if x.e.At == 9 {
			want = api.ErrRange
		}
		if errs := holds(t, h, x.e); errs[0] != want {
			t.Errorf("%v: %d, not %d", x.e, errs[0], want)
		}
		got, _ := calls(h, x.e)
		if want != api.OK && !got[0].same(step{err: want}) {
			t.Error(x.e, got[0])
		}
	}
	// Without what is pending any site may go on.
	h = hists.Numbered()
	for site, seq := range []int{1: 4, 2: 3, 3: 6, 4: 2, 5: 3, 6: 1, maxSites: 1} {
		if seq == 0 {
			continue
		}
		for far, want := range map[int]api.Errno{-1: api.ErrOrder, 0: api.OK, 1: api.ErrOrder} {
			if far+seq == 0 {
				want = api.ErrArg
			}
			for _, e := range []api.Edit{writes(name(site, seq+far), 12, 0, "w"), deletes(name(site, seq+far), 12, 0, 1)} {
				if errs := holds(t, h, e); errs[0] != want {
					t.Errorf("%v: %d, not %d", e, errs[0], want)
				}
			}
		}
	}
	// An edit of the site's that was made later is no hindrance to Local; it is one to Other.
	h.List[3].Edit.Context = maxNum
	refused(t, h, writes(name(1, 4), 12, 0, "w"), [3]api.Errno{api.OK, api.ErrOrder, api.ErrOrder})
}

// P15.1: places behind what is seen behind all entries, what is pending too.
func TestLocalRange(t *testing.T) {
	h := waiting(t)
	n, live := name(1, 4), 5
	if textOf(t, h) != "axycz" {
		t.Fatal(textOf(t, h))
	}
	for at := range 9 {
		want := api.OK
		if at > live {
			want = api.ErrRange
		}
		if errs := holds(t, h, writes(n, 0, at, "w")); errs[0] != want {
			t.Errorf("an insertion at %d: %d", at, errs[0])
		}
		for long := 1; long < 9; long++ {
			want := api.OK
			if at+long > live {
				want = api.ErrRange
			}
			if errs := holds(t, h, deletes(n, 0, at, long)); errs[0] != want {
				t.Errorf("a deletion of %d at %d: %d", long, at, errs[0])
			}
		}
	}
	for _, far := range []int{maxCells - 1, maxCells} {
		for _, e := range []api.Edit{writes(n, 0, far, "w"), deletes(n, 0, far, 1), deletes(n, 0, 0, far), deletes(n, 0, far, far), deletes(n, 0, live, far)} {
			if errs := holds(t, h, e); errs[0] != api.ErrRange {
				t.Errorf("%v: %d", e, errs[0])
			}
		}
	}
	// Of nothing, and of what is Gone alone.
	for _, h := range []hist.Hist{{}, {Base: []api.Cell{cell(2, 1, 0, 'a', true)}, Vector: []int{0, 1}}} {
		for at, want := range []api.Errno{api.OK, api.ErrRange} {
			refused(t, h, writes(name(1, 1), 0, at, "w"), [3]api.Errno{want, want, want})
			refused(t, h, deletes(name(1, 1), 0, at, 1), [3]api.Errno{api.ErrRange, api.ErrRange, api.ErrRange})
		}
	}
}

// P15.1 to P15.3: what may not be, first of all; but of a name that is the first pending one's, Take tells first that the edit isn't that one's.
func TestMayNot(t *testing.T) {
	all := [3]api.Errno{api.ErrArg, api.ErrArg, api.ErrArg}
	full := hists.Sample()
	full.Num = maxNum
	for _, e := range mayNotBe(writes(name(3, 8), 12, 0, "w"), deletes(name(3, 8), 12, 0, 1)) {
		for _, h := range []hist.Hist{hists.Numbered(), hists.Sample(), full, hists.Long(maxList, 300), {}} {
			refused(t, h, e, all)
		}
	}
	// Of a pending one's name: the second one's, and the first one's.
	for i, want := range []api.Errno{api.ErrTwice, api.ErrArg} {
		for _, e := range mayNotBe(writes(name(3, 6+i), 12, 0, "w"), deletes(name(3, 6+i), 12, 0, 1)) {
			if e.Name == name(3, 6+i) {
				refused(t, hists.Sample(), e, [3]api.Errno{api.ErrArg, api.ErrArg, want})
			}
		}
	}
	// Histories: a few things each, that layer 13 knows of.
	for i, do := range []func(h *hist.Hist){
		func(h *hist.Hist) { h.From = 13 }, func(h *hist.Hist) { h.From = 5 }, func(h *hist.Hist) { h.From = -1 }, func(h *hist.Hist) { h.Num = 10 }, func(h *hist.Hist) { h.Num = maxNum + 1 }, func(h *hist.Hist) { h.Vector = nil }, func(h *hist.Hist) { h.Vector[0]++ }, func(h *hist.Hist) { h.Vector = append(h.Vector, 0) },
		func(h *hist.Hist) { h.Base[2].Off = -1 }, func(h *hist.Hist) { h.Base[0] = h.Base[1] }, func(h *hist.Hist) { h.Base = nil }, func(h *hist.Hist) { h.List[2].Op.At = 99 }, func(h *hist.Hist) { h.List[2].Op.Num = 0 }, func(h *hist.Hist) { h.List[3].Op.Num = 8 }, func(h *hist.Hist) { h.List[1].Edit.Len = 0 }, func(h *hist.Hist) { h.List[1].Edit.Name = h.List[0].Edit.Name }, func(h *hist.Hist) { h.List[1].Op.Spans = append(h.List[1].Op.Spans, api.Span{}) },
		func(h *hist.Hist) {
			h.List = append(h.List, entries(insertion(name(3, 6), 0, 0, "a"), insertion(name(6, 1), 0, 0, "b"))...)
		},
		func(h *hist.Hist) {
			h.List = append(h.List, entries(insertion(name(3, 6), -1, 0, "a"))...)
		},
	} {
		for _, from := range []hist.Hist{hists.Numbered(), hists.Sample(), full} {
			h := clone(from)
			do(&h)
			if hists.May(h) {
				t.Fatal("the test is wrong:", i)
			}
			for _, e := range []api.Edit{writes(name(3, 8), 12, 0, "w"), writes(name(3, 6), 12, 0, "w"), writes(name(3, 8), 99, 0, "w"), h.List[len(h.List)-1].Edit, from.List[len(from.List)-1].Edit, {}} {
				refused(t, h, e, all)
			}
			if err := holdsOwn(t, h); err != api.ErrArg {
				t.Error(i, err)
			}
		}
	}
}

// mayNotBe are edits that may not be, each of a thing alone that is spoilt.
func mayNotBe(from ...api.Edit) []api.Edit {
	var edits []api.Edit
	add := func(do func(e *api.Edit)) {
		for _, e := range from {
			do(&e)
			edits = append(edits, e)
		}
	}
	for _, n := range huge {
		add(func(e *api.Edit) { e.Context = n })
		add(func(e *api.Edit) { e.At = n })
		add(func(e *api.Edit) { e.Len = n })
		add(func(e *api.Edit) { e.Kind = n })
		add(func(e *api.Edit) { e.Name.Site = n })
		add(func(e *api.Edit) { e.Name.Seq = n })
	}
	add(func(e *api.Edit) { e.Name.Site = 0 })
	add(func(e *api.Edit) { e.Name.Site = maxSites + 1 })
	add(func(e *api.Edit) { e.Name.Seq = 0 })
	add(func(e *api.Edit) { e.At = maxCells + 1 })
	add(func(e *api.Edit) { e.Kind = 0 })
	add(func(e *api.Edit) { e.Kind = 3 })
	add(func(e *api.Edit) { e.Kind = 3 - e.Kind })
	add(func(e *api.Edit) { e.Len, e.Text = 1-e.Len, strings.Repeat("w", e.Len) })
	add(func(e *api.Edit) { e.Text = "\xff" })
	add(func(e *api.Edit) { e.Text = strings.Repeat("w", maxText+1) })
	add(func(e *api.Edit) { e.Text += "\xed\xa0\x80" })
	add(func(e *api.Edit) { e.Len = maxCells + 1 })
	return append(edits, api.Edit{})
}

// P15.2: the name of a pending entry, whichever, ahead of all that Weave tells.
func TestTwice(t *testing.T) {
	for _, num := range []int{12, maxNum} {
		h := hists.Sample()
		h.Num = num
		for _, n := range []api.Name{name(3, 6), name(3, 7)} {
			for _, e := range []api.Edit{writes(n, num, 0, "w"), writes(n, 12, 0, "w"), writes(n, 1, 99, "w"), deletes(n, num, 0, 1), deletes(n, num-1, 9, 999)} {
				refused(t, h, e, [3]api.Errno{api.ErrOrder, api.ErrTwice, api.ErrTwice})
			}
		}
		// Other also of the first one's own edit, that Take takes in.
		want := [3]api.Errno{api.ErrOrder, api.ErrTwice, api.OK}
		if num == maxNum {
			want[2] = api.ErrEnd
		}
		refused(t, h, h.List[4].Edit, want)
		refused(t, h, h.List[5].Edit, [3]api.Errno{api.ErrOrder, api.ErrTwice, api.ErrTwice})
		// The names beside them are Weave's to refuse.
		for _, n := range []api.Name{name(3, 5), name(3, 8), name(3, 1), name(2, 6), name(4, 7), name(6, 2)} {
			errs := holds(t, h, writes(n, num, 0, "w"))
			if errs[1] != api.ErrOrder || errs[2] != api.ErrOrder {
				t.Error(n, errs)
			}
		}
	}
}

// P15.2: Weave's errors, of what has a number alone, whatever is pending.
func TestWeaveRefuses(t *testing.T) {
	h := hists.Sample() // From 4, Num 12; without what is pending the site 3 reaches 5
	for _, x := range []struct {
		e    api.Edit
		want api.Errno
	}{
		{writes(name(1, 4), 12, 0, "w"), api.OK}, {writes(name(2, 3), 4, 0, "w"), api.ErrLost}, {deletes(name(6, 1), 12, 0, 1), api.OK},
		{writes(name(6, 1), 3, 0, "w"), api.ErrOrder}, {writes(name(6, 1), 13, 0, "w"), api.ErrOrder}, {writes(name(6, 2), 12, 0, "w"), api.ErrOrder}, {writes(name(1, 3), 12, 0, "w"), api.ErrOrder}, {writes(name(1, 5), 12, 0, "w"), api.ErrOrder},
		{writes(name(6, 1), 12, 99, "w"), api.ErrRange}, {deletes(name(6, 1), 12, 0, 99), api.ErrRange}, {deletes(name(6, 1), 12, 99, 1), api.ErrRange},
	} {
		if errs := holds(t, h, x.e); errs[1] != x.want || errs[2] != x.want {
			t.Errorf("%v: %d", x.e, errs)
		}
	}
	// What is seen is what the context shows, without what is pending there: of abc, behind which the site 1 wrote, and of which it deleted.
	h = waiting(t)
	for at := range 7 {
		want := api.OK
		if at > 3 {
			want = api.ErrRange
		}
		if errs := holds(t, h, writes(name(2, 1), 0, at, "w")); errs[1] != want || errs[2] != want {
			t.Error(at, errs)
		}
	}
	// No number is left.
	h.Num = maxNum
	refused(t, h, writes(name(2, 1), maxNum, 0, "w"), [3]api.Errno{api.ErrOrder, api.ErrEnd, api.ErrEnd})
	refused(t, h, writes(name(2, 1), maxNum, 99, "w"), [3]api.Errno{api.ErrOrder, api.ErrEnd, api.ErrEnd})
	refused(t, h, writes(name(2, 2), maxNum, 0, "w"), [3]api.Errno{api.ErrOrder, api.ErrOrder, api.ErrOrder})
	h.Num = maxNum - 1
	refused(t, h, writes(name(2, 1), maxNum-1, 0, "w"), [3]api.Errno{api.ErrOrder, api.OK, api.OK})
	// What is known hangs on what isn't.
	h = hist.Hist{Num: 3, List: entries(insertion(name(1, 1), 1, 0, "abc"), insertion(name(2, 1), 2, 1, "d"), deletion(name(2, 2), 3, 1, 1), insertion(name(3, 1), 0, 0, "e"))}
	h.List[1].Edit.Context, h.List[2].Edit.Context = 0, 0
	refused(t, h, writes(name(2, 3), 0, 0, "w"), [3]api.Errno{api.ErrOrder, api.ErrLost, api.ErrLost})
	refused(t, h, writes(name(2, 3), 0, 99, "w"), [3]api.Errno{api.ErrOrder, api.ErrLost, api.ErrLost})
	refused(t, h, writes(name(2, 3), 1, 0, "w"), [3]api.Errno{api.ErrOrder, api.OK, api.OK})
}

// P15.3: Own up to the greatest Num, and of histories without anything pending.
func TestOwnRefused(t *testing.T) {
	for _, x := range []struct {
		h    hist.Hist
		want api.Errno
	}{
		{hist.Hist{}, api.ErrNone}, {abc(), api.ErrNone}, {hists.Numbered(), api.ErrNone}, {hist.Hist{Num: maxNum}, api.ErrNone}, {hists.Long(maxList, maxList), api.ErrNone},
		{hists.Sample(), api.OK}, {waiting(t), api.OK}, {hists.Long(maxList, maxList-1), api.OK}, {hists.Long(maxList, 0), api.OK}, {hist.Hist{Num: maxNum, From: maxNum, List: waitingList(t)}, api.ErrEnd}, {hist.Hist{Num: maxNum - 1, List: waitingList(t)}, api.OK},
		{hist.Hist{Num: maxNum + 1, List: waitingList(t)}, api.ErrArg}, {hist.Hist{Num: -1, From: -1, List: waitingList(t)}, api.ErrArg}, {hist.Hist{Num: maxNum, From: maxNum + 1}, api.ErrArg},
	} {
		if err := holdsOwn(t, x.h); err != x.want {
			t.Errorf("%v: %d, not %d", brief(x.h), err, x.want)
		}
		if next, err := rebase.Own(x.h); err != api.OK && !hists.Same(next, hist.Hist{}) {
			t.Error(next, err)
		}
	}
	if next, err := rebase.Own(hist.Hist{Num: maxNum - 1, List: waitingList(t)}); err != api.OK || next.Num != maxNum || next.List[0].Op.Num != maxNum {
		t.Error(next, err)
	}
}

// waitingList are pending entries upon no cells.
func waitingList(t *testing.T) []api.Entry {
	t.Helper()
	return local(t, hist.Hist{}, writes(name(3, 1), 0, 0, "abc"), deletes(name(3, 2), 0, 1, 1), writes(name(3, 3), 0, 1, "w")).List
}

// P15.3: the first pending entry's name, with its own edit, and with one that is unlike in each field.
func TestTake(t *testing.T) {
	for _, h := range []hist.Hist{waiting(t), {List: waitingList(t)}, local(t, abc(), deletes(name(2, 1), 0, 1, 2), writes(name(2, 2), 0, 0, "w"))} {
		first := h.List[0].Edit
		next, op, own, err := rebase.Take(h, first)
		if want, wantErr := rebase.Own(h); err != api.OK || wantErr != api.OK || !own || !alike(op, api.Op{}) || !hists.Same(next, want) {
			t.Error(next, op, own, err)
		}
		for i, do := range []func(e *api.Edit){
			func(e *api.Edit) { e.Context++ }, func(e *api.Edit) { e.Context = maxNum }, func(e *api.Edit) { e.Context = -1 }, func(e *api.Edit) { e.At++ }, func(e *api.Edit) { e.At = maxCells }, func(e *api.Edit) { e.Len++ }, func(e *api.Edit) { e.Len = -1 }, func(e *api.Edit) { e.Kind = 3 - e.Kind }, func(e *api.Edit) { e.Kind = 0 },
			func(e *api.Edit) { e.Text += "w" }, func(e *api.Edit) { e.Text = "\xff" + e.Text }, func(e *api.Edit) { e.Text = strings.ToUpper(e.Text) + " " },
			func(e *api.Edit) { *e = writes(e.Name, 0, 0, "w") }, func(e *api.Edit) { *e = api.Edit{Name: e.Name} },
		} {
			e := first
			do(&e)
			next, op, own, err := rebase.Take(h, e)
			if err != api.ErrTwice || own || !alike(op, api.Op{}) || !hists.Same(next, hist.Hist{}) {
				t.Error(i, next, op, own, err)
			}
			holds(t, h, e)
		}
		// Told ahead of what Own tells.
		end := clone(h)
		end.Num = maxNum
		if _, _, own, err := rebase.Take(end, first); err != api.ErrEnd || own {
			t.Error(own, err)
		}
		first.At++
		if _, _, own, err := rebase.Take(end, first); err != api.ErrTwice || own {
			t.Error(own, err)
		}
		// The names that are unlike.
		for _, n := range []api.Name{h.List[1].Op.Name, name(first.Name.Site, 9), name(first.Name.Site+1, 1), name(first.Name.Site+1, 2)} {
			e := h.List[0].Edit
			e.Name = n
			want, wantOp, wantErr := rebase.Other(h, e)
			if next, op, own, err := rebase.Take(h, e); err != wantErr || own || !alike(op, wantOp) || !hists.Same(next, want) {
				t.Error(n, next, op, own, err)
			}
			holds(t, h, e)
		}
	}
}

// P15.1, P15.2: as many entries as there may be, and one less; which error is told of what is wrong besides.
func TestLong(t *testing.T) {
	for _, wait := range []int{0, 7, maxList - 1} {
		for _, n := range []int{maxList - 1, maxList} {
			h := hists.Long(n, n-wait)
			own, other := name(7, hists.CountOf(hists.Reached(h), 7)+1), name(8, hists.CountOf(hists.Reached(hists.Cut(h)), 8)+1)
			want := api.OK
			if n == maxList {
				want = api.ErrHistory
			}
			for _, e := range []api.Edit{deletes(own, h.Num, 1, 2), writes(own, h.Num, 3, "w")} {
				if errs := holds(t, h, e); errs[0] != want {
					t.Errorf("%d, %d of them pending: %v: %d", n, wait, e, errs)
				}
			}
			for _, e := range []api.Edit{deletes(other, h.Num, 1, 1), writes(other, h.Num, 2, "w")} {
				if errs := holds(t, h, e); errs[1] != want || errs[2] != want {
					t.Errorf("%d, %d of them pending: %v: %d", n, wait, e, errs)
				}
			}
			// Told first.
			if _, _, err := rebase.Local(h, writes(own, h.Num, 9999, "w")); err != api.ErrRange {
				t.Error(n, wait, err)
			}
			if _, _, err := rebase.Local(h, writes(own, h.Num-1, 0, "w")); err != api.ErrOrder && h.Num > 0 {
				t.Error(n, wait, err)
			}
			if _, _, err := rebase.Other(h, writes(other, h.Num, 9999, "w")); err != api.ErrRange {
				t.Error(n, wait, err)
			}
			if _, _, err := rebase.Other(h, writes(name(8, other.Seq+1), h.Num, 0, "w")); err != api.ErrOrder {
				t.Error(n, wait, err)
			}
			// What the site did itself is there already: a full history takes its number in.
			if wait > 0 {
				if _, _, isOwn, err := rebase.Take(h, h.List[n-wait].Edit); err != api.OK || !isOwn {
					t.Error(n, wait, err)
				}
			}
		}
	}
}

// P15.1, P15.2: documents in which there is no more room: for an own edit, behind all; for another site's upon its context, behind what has a number, and behind what is pending.
func TestFull(t *testing.T) {
	h := hists.Wide(maxCells - 10)
	h = taken(t, h, writes(name(1, 1), 0, 7, "123"))
	h = local(t, h, deletes(name(3, 1), 1, 0, 100), writes(name(3, 2), 1, 0, "45"))
	// Ten in the context, seven where nothing is pending, five behind all.
	for _, long := range []int{5, 6, 10, 11} {
		text := strings.Repeat("\u20ac", long)
		mine, others := api.OK, api.OK
		if long > 5 {
			mine, others = api.ErrArg, api.ErrFull
		}
		if long > 10 {
			others = api.ErrArg
		}
		if _, _, err := rebase.Local(h, writes(name(3, 3), 1, 9, text)); err != mine {
			t.Error(long, err)
		}
		if _, _, err := rebase.Local(h, writes(name(3, 3), 1, maxCells, text)); err != api.ErrRange {
			t.Error(long, err)
		}
		if errs := holds(t, h, writes(name(4, 1), 0, 40, text)); errs[1] != others || errs[2] != others {
			t.Error(long, errs)
		}
		if _, _, err := rebase.Other(h, writes(name(4, 1), 0, maxCells, text)); err != api.ErrRange {
			t.Error(long, err)
		}
	}
	holds(t, h, writes(name(3, 3), 1, 9, "12345"))
	refused(t, h, deletes(name(4, 1), 0, 0, 900), [3]api.Errno{api.ErrOrder, api.OK, api.OK})
	refused(t, h, deletes(name(3, 3), 1, 0, 900), [3]api.Errno{api.OK, api.ErrOrder, api.ErrOrder})
	// As many as there may be.
	h = hists.Wide(maxCells)
	refused(t, h, writes(name(1, 1), 0, 0, "w"), [3]api.Errno{api.ErrArg, api.ErrArg, api.ErrArg})
	refused(t, h, deletes(name(1, 1), 0, 0, maxCells-maxCells/3), [3]api.Errno{})
	refused(t, h, deletes(name(1, 1), 0, 1, maxCells-maxCells/3), [3]api.Errno{api.ErrRange, api.ErrRange, api.ErrRange})
}

// P15.1, P15.2: a document without room, and a history that is full: the one ahead of the other.
func TestFullAndLong(t *testing.T) {
	h := hists.Wide(maxCells - 3)
	h.Num = 9
	for k := range maxList {
		op := deletion(name(5, k+1), 0, k, 1)
		if k == maxList-1 {
			op = insertion(op.Name, 0, 7, "w")
		}
		h.List = append(h.List, entries(op)...)
	}
	next := name(5, maxList+1)
	if errs := holds(t, h, writes(next, 9, 0, "123")); errs[0] != api.ErrArg {
		t.Error(errs)
	}
	if errs := holds(t, h, writes(next, 9, 0, "12")); errs[0] != api.ErrHistory {
		t.Error(errs)
	}
	if errs := holds(t, h, writes(name(4, 1), 9, 0, "123")); errs[1] != api.ErrHistory || errs[2] != api.ErrHistory {
		t.Error(errs)
	}
	if errs := holds(t, h, writes(name(4, 1), 9, 0, "1234")); errs[1] != api.ErrArg || errs[2] != api.ErrArg {
		t.Error(errs)
	}
	// One less, and the crossing has no room.
	h.List = append(h.List[:3], h.List[4:]...)
	for i := range h.List {
		h.List[i].Op.Name.Seq, h.List[i].Edit.Name.Seq = i+1, i+1
	}
	if errs := holds(t, h, writes(name(4, 1), 9, 0, "123")); errs[1] != api.ErrFull || errs[2] != api.ErrFull {
		t.Error(errs)
	}
	if errs := holds(t, h, writes(name(4, 1), 9, 0, "12")); errs[1] != api.OK || errs[2] != api.OK {
		t.Error(errs)
	}
}
