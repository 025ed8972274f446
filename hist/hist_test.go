package hist_test

import (
	"math"
	"math/rand"
	"slices"
	"strings"
	"testing"

	"foolscap/api"
	"foolscap/cells"
	"foolscap/hist"
	"foolscap/model"
	"foolscap/model/hists"
)

// The limits, as the chapters write them out.
const (
	maxText  = model.MaxText
	maxCells = model.MaxCells
	maxList  = model.MaxList
	maxSites = model.MaxSites
	maxNum   = model.MaxNum
)

// What the tests take from the model, in short.
var (
	list, name, insertion, deletion    = model.List, model.Name, model.Insertion, model.Deletion
	play, alike, alikeAll, alikeNames  = model.Play, model.Alike, model.AlikeAll, model.AlikeNames
	short, shorts, sameSpans, modelRun = model.Short, model.Shorts, model.SameSpans, model.Run

	cell, entry, entries                      = hists.Cell, hists.Entry, hists.Entries
	sample, numbered, long, wide              = hists.Sample, hists.Numbered, hists.Long, hists.Wide
	clone, brief, opsOf, countOf              = hists.Clone, hists.Brief, hists.OpsOf, hists.CountOf
	broken, may, reached, pendingOf, sameHist = hists.Broken, hists.May, hists.Reached, hists.PendingOf, hists.Same
	modelAdd, modelPass, modelCut, modelMoves = hists.Add, hists.Pass, hists.Cut, hists.Moves
)

// huge are numbers far from all limits.
var huge = []int{math.MinInt, math.MinInt + 1, math.MinInt32, -maxCells, -1, maxNum + 1, 1 << 50, math.MaxInt - 1, math.MaxInt}

// checks.

// unchanged checks that a history is as it was, behind whatever is done when the test goes on.
func unchanged(t *testing.T, h hist.Hist) func() {
	was := clone(h)
	return func() {
		t.Helper()
		if !sameHist(h, was) {
			t.Fatalf("%v came to be %v", brief(was), brief(h))
		}
	}
}

// refused checks what is told of a history that may not be.
func refused(t *testing.T, h hist.Hist) {
	t.Helper()
	defer unchanged(t, h)()
	if hist.May(h) {
		t.Fatalf("%v may be, in spite of %v", brief(h), broken(h))
	}
	if l := hist.Ops(h); len(l) != 0 {
		t.Fatalf("Ops(%v): %v", brief(h), shorts(l))
	}
	if n := hist.Pending(h); n != 0 {
		t.Fatalf("Pending(%v): %d", brief(h), n)
	}
	if v, err := hist.Reach(h); len(v) != 0 || err != api.ErrArg {
		t.Fatalf("Reach(%v): %v, %d", brief(h), v, err)
	}
	for _, k := range []int{-1, 0, 1, len(h.List), len(h.List) + 1} {
		if d, err := hist.Replay(h, k); d != nil || err != api.ErrArg {
			t.Fatalf("Replay(%v, %d): %d", brief(h), k, err)
		}
		for _, to := range []int{-1, 0, k} {
			if l, err := hist.Moves(h, k, to); len(l) != 0 || err != api.ErrArg {
				t.Fatalf("Moves(%v, %d, %d): %v, %d", brief(h), k, to, l, err)
			}
		}
	}
	for _, e := range entries(api.Op{}, insertion(name(9, 1), 0, 0, "a"), insertion(name(9, 1), h.Num+1, 0, "a"), insertion(name(9, 1), h.Num, 0, "a")) {
		if got, err := hist.Add(h, e); !sameHist(got, hist.Hist{}) || err != api.ErrArg {
			t.Fatalf("Add(%v, %v): %v, %d", brief(h), short(e.Op), brief(got), err)
		}
	}
	if got, err := hist.Pass(h); !sameHist(got, hist.Hist{}) || err != api.ErrArg {
		t.Fatalf("Pass(%v): %v, %d", brief(h), brief(got), err)
	}
	if got := hist.Cut(h); !sameHist(got, hist.Hist{}) {
		t.Fatalf("Cut(%v): %v", brief(h), brief(got))
	}
	if was := clone(h); !hist.Same(h, was) || !hist.Same(was, h) {
		t.Fatalf("Same(%v, itself): false", brief(h))
	}
}

// holdsAll checks what is told of a whole history against the model.
func holdsAll(t *testing.T, h hist.Hist) {
	t.Helper()
	if !may(h) {
		refused(t, h)
		return
	}
	defer unchanged(t, h)()
	if !hist.May(h) {
		t.Fatalf("%v may not be", brief(h))
	}
	if got, want := hist.Ops(h), opsOf(h.List); !alikeAll(got, want) {
		t.Fatalf("Ops(%v): %v, not %v", brief(h), shorts(got), shorts(want))
	}
	if got, want := hist.Pending(h), pendingOf(h); got != want {
		t.Fatalf("Pending(%v): %d, not %d", brief(h), got, want)
	}
	if got, err := hist.Reach(h); !slices.Equal(got, reached(h)) || err != api.OK {
		t.Fatalf("Reach(%v): %v, %d, not %v", brief(h), got, err, reached(h))
	}
	want, wantErr := modelPass(h)
	if got, err := hist.Pass(h); !sameHist(got, want) || err != wantErr {
		t.Fatalf("Pass(%v): %v, %d, not %d", brief(h), brief(got), err, wantErr)
	}
	if got, want := hist.Cut(h), modelCut(h); !sameHist(got, want) {
		t.Fatalf("Cut(%v): %v, not %v", brief(h), brief(got), brief(want))
	}
	if was := clone(h); !hist.Same(h, was) || !hist.Same(was, h) {
		t.Fatalf("Same(%v, itself): false", brief(h))
	}
}

// holdsReplay checks the document behind the first k entries.
func holdsReplay(t *testing.T, h hist.Hist, k int) {
	t.Helper()
	defer unchanged(t, h)()
	d, err := hist.Replay(h, k)
	if k < 0 || k > len(h.List) {
		if d != nil || err != api.ErrRange {
			t.Fatalf("Replay(%v, %d): %d", brief(h), k, err)
		}
		return
	}
	want := play(h.Base, opsOf(h.List[:k])...)
	if err != api.OK || d == nil || !slices.Equal(d.Cells(), want) || d.Size() != len(want) {
		t.Fatalf("Replay(%v, %d): %d, %v, not %v", brief(h), k, err, d.Cells(), want)
	}
}

// holdsAdd checks Add against the model, and tells what came of it.
func holdsAdd(t *testing.T, h hist.Hist, e api.Entry) (hist.Hist, api.Errno) {
	t.Helper()
	defer unchanged(t, h)()
	want, wantErr := modelAdd(h, e)
	spans := slices.Clone(e.Op.Spans)
	got, err := hist.Add(h, e)
	if !sameHist(got, want) || err != wantErr {
		t.Fatalf("Add(%v, %v): %v, %d, not %v, %d", brief(h), short(e.Op), brief(got), err, brief(want), wantErr)
	}
	if !sameSpans(e.Op.Spans, spans) {
		t.Fatalf("Add changed the entry of %v", short(e.Op))
	}
	return got, err
}

// holdsMoves checks Moves against the model, and that each list that it tells leaves the history's cells.
func holdsMoves(t *testing.T, h hist.Hist, from, to int) {
	t.Helper()
	defer unchanged(t, h)()
	want, wantErr := modelMoves(h, from, to)
	got, err := hist.Moves(h, from, to)
	if !slices.EqualFunc(got, want, alikeAll) || err != wantErr {
		t.Fatalf("Moves(%v, %d, %d): %v, %d, not %v, %d", brief(h), from, to, got, err, want, wantErr)
	}
	if err != api.OK {
		return
	}
	d, err := hist.Replay(h, len(h.List))
	if err != api.OK || len(got) != from-to+1 {
		t.Fatalf("Moves(%v, %d, %d): %d, %d", brief(h), from, to, len(got), err)
	}
	for i, l := range got {
		if !slices.Equal(replayed(t, h.Base, l), d.Cells()) {
			t.Fatalf("Moves(%v, %d, %d), %d: %v leaves another document", brief(h), from, to, i, shorts(l))
		}
	}
}

// replayed are the cells that operations leave, carried out by layer 12 upon a document.
func replayed(t *testing.T, base []api.Cell, l []api.Op) []api.Cell {
	t.Helper()
	d, err := cells.New(base)
	if err != api.OK {
		t.Fatal(err)
	}
	for i, op := range l {
		if err := d.Do(op); err != api.OK {
			t.Fatalf("%v, %d: %d", shorts(l), i, err)
		}
	}
	return d.Cells()
}

// holds checks all that is told of a small history.
func holds(t *testing.T, h hist.Hist) {
	t.Helper()
	holdsAll(t, h)
	if !may(h) {
		return
	}
	for k := -1; k <= len(h.List)+1; k++ {
		holdsReplay(t, h, k)
		for to := -1; to <= len(h.List)+1; to++ {
			holdsMoves(t, h, k, to)
		}
	}
	for _, k := range huge {
		holdsReplay(t, h, k)
		holdsMoves(t, h, k, 0)
		holdsMoves(t, h, len(h.List)-1, k)
		holdsMoves(t, h, k, k)
	}
}

// The chapter's examples.
func TestExamples(t *testing.T) {
	for _, op := range []api.Op{insertion(name(1, 1), 1, 0, "a"), deletion(name(1, 1), 1)} {
		h, err := hist.Add(hist.Hist{}, entry(op))
		if err != api.OK || h.Num != 1 || h.From != 0 || len(h.List) != 1 || !alike(h.List[0].Op, op) {
			t.Error(h, err)
		}
		op.Num = 2
		if h, err := hist.Add(hist.Hist{}, entry(op)); err != api.ErrOrder || !sameHist(h, hist.Hist{}) {
			t.Error(h, err)
		}
	}
	if h, err := hist.Pass(hist.Hist{}); err != api.OK || !sameHist(h, hist.Hist{Num: 1}) {
		t.Error(h, err)
	}
}

// P13.1, P13.2: what is told of the sample, written out.
func TestSample(t *testing.T) {
	h := sample()
	if !hist.May(h) || hist.Pending(h) != 2 || hist.Pending(numbered()) != 0 {
		t.Fatal(broken(h), hist.Pending(h))
	}
	l := hist.Ops(h)
	if len(l) != 6 || l[0].Text != "xyw" || !sameSpans(l[1].Spans, list(0, 1, 3, 3)) || l[4].Num != 0 || !sameSpans(l[5].Spans, list(2, 2, 10, 1)) {
		t.Error(l)
	}
	if v, err := hist.Reach(h); err != api.OK || !slices.Equal(v, []int{3, 2, 7, 1, 2}) {
		t.Error(v, err)
	}
	for k, want := range []string{"bd\U0001f642", "bxywd\U0001f642", "bxd\U0001f642", "bxd\U0001f642q", "bx\u00e9d\U0001f642q", "ppbx\u00e9d\U0001f642q", "px\u00e9\U0001f642q"} {
		if d, err := hist.Replay(h, k); err != api.OK || d.Text() != want {
			t.Errorf("%d: %d, %q, not %q", k, err, d.Text(), want)
		}
	}
	if h, err := hist.Pass(h); err != api.OK || h.Num != 13 || h.From != 4 || len(h.List) != 6 || h.List[5].Op.Num != 0 {
		t.Error(h, err)
	}
	if h := hist.Cut(h); h.Num != 12 || len(h.List) != 4 || h.List[3].Op.Num != 11 {
		t.Error(h)
	}
	holds(t, h)
	holds(t, numbered())
}

// P13.1 to P13.4: histories of no entry, of one, of several; with numbers, without, with both; of nothing, and of what is there.
func TestFew(t *testing.T) {
	base := sample().Base
	v := []int{1, 1, 5}
	ins, del := insertion(name(4, 1), 9, 0, "ab"), deletion(name(4, 1), 9)
	pending, gone := insertion(name(4, 1), 0, 0, strings.Repeat("\U0001f642", maxText)), deletion(name(4, 2), 0, 0, maxText)
	for i, h := range []hist.Hist{
		{}, {Num: 1}, {Num: maxNum}, {From: 3, Num: 3}, {From: 3, Num: 9}, {From: maxNum, Num: maxNum}, {Vector: []int{0, 0, 7}}, {Vector: v, Num: 2}, {Vector: []int{maxNum}},
		{Base: base, Vector: v}, {Base: base, Vector: []int{2, 3, 5, 0, 0, maxNum}, From: 2, Num: 3}, {Base: base[:1], Vector: []int{1}}, {Base: []api.Cell{base[0], base[4]}, Vector: v}, {Base: []api.Cell{cell(maxSites, maxNum, maxText-1, 0x10ffff, true)}, Vector: append(make([]int, maxSites-1), maxNum)},
		{Num: 9, List: entries(ins)}, {Num: 9, List: entries(del)}, {From: 8, Num: 20, List: entries(ins)}, {Num: maxNum, List: entries(ins)}, {List: entries(pending)}, {List: entries(pending, gone)}, {From: 5, Num: 5, List: entries(pending, gone)}, {From: maxNum, Num: maxNum, List: entries(pending, gone)},
		{From: maxNum - 1, Num: maxNum, List: entries(insertion(name(maxSites, 1), maxNum, 0, "z"), pending, gone)},
		{Vector: []int{maxNum - 1}, List: entries(insertion(name(1, maxNum), 0, 0, "z"))},
		{Base: base, Vector: v, Num: 10, List: entries(insertion(name(4, 1), 9, 7, "ab"), deletion(name(1, 2), 10, 0, 9))},
		{Base: base, Vector: v, Num: 10, List: entries(deletion(name(1, 2), 9, 0, 7), insertion(name(4, 1), 10, 7, "ab"))},
		{Base: base, Vector: v, Num: 10, List: entries(insertion(name(4, 1), 9, 3, "ab"), insertion(name(4, 2), 10, 4, "cd"), deletion(name(4, 3), 0, 3, 4), insertion(name(4, 4), 0, 5, "e"))},
		{Base: base, Vector: v, Num: 10, List: entries(insertion(name(4, 1), 0, 3, "ab"), insertion(name(4, 2), 0, 4, "cd"), deletion(name(4, 3), 0, 3, 4), insertion(name(4, 4), 0, 5, "e"))},
	} {
		if !may(h) {
			t.Fatal(i, broken(h))
		}
		holds(t, h)
		for _, op := range []api.Op{insertion(name(1, 1), h.Num+1, 0, "z"), insertion(name(1, 2), h.Num+1, 0, "z"), insertion(name(4, 3), 0, 0, "z"), insertion(name(9, 1), 0, 1, "z"), deletion(name(5, 1), h.Num+1, 6, 1), deletion(name(4, 1), 0)} {
			holdsAdd(t, h, entry(op))
		}
	}
}

// nudged tells a number that is changed a bit, or a lot.
func nudged(r *rand.Rand, n int) int {
	switch r.Intn(6) {
	case 0:
		return 0
	case 1:
		return -n
	case 2:
		return huge[r.Intn(len(huge))]
	}
	return n + 1 - 2*r.Intn(2)
}

// spoil changes one thing of a history; it may be, all the same.
func spoil(r *rand.Rand, h *hist.Hist) {
	numbers := []*int{&h.From, &h.Num}
	for i := range h.Vector {
		numbers = append(numbers, &h.Vector[i])
	}
	for range min(len(h.Base), 3) {
		c := &h.Base[r.Intn(len(h.Base))]
		numbers = append(numbers, &c.Name.Site, &c.Name.Seq, &c.Off)
	}
	for i := range h.List {
		op, e := &h.List[i].Op, &h.List[i].Edit
		numbers = append(numbers, &op.Name.Site, &op.Name.Seq, &op.Num, &op.Kind, &op.At, &e.Name.Site, &e.Name.Seq, &e.Context, &e.Kind, &e.At, &e.Len)
		for k := range op.Spans {
			numbers = append(numbers, &op.Spans[k].From, &op.Spans[k].Len)
		}
	}
	if pick := r.Intn(8); pick > 2 || len(h.List) == 0 {
		n := numbers[r.Intn(len(numbers))]
		*n = nudged(r, *n)
		return
	}
	i, k := r.Intn(len(h.List)), r.Intn(len(h.List))
	switch r.Intn(4) {
	case 0:
		h.List[i], h.List[k] = h.List[k], h.List[i]
	case 1:
		h.List = slices.Delete(h.List, i, i+1)
	case 2:
		h.List[i].Op.Name, h.List[i].Edit.Name = h.List[k].Op.Name, h.List[k].Op.Name
	case 3:
		h.List[i].Op.Num, h.List[k].Op.Num = h.List[k].Op.Num, h.List[i].Op.Num
	}
}

// P13.1 to P13.4: many histories, such as may be and, changed in some thing or other, such as may not.
func TestMany(t *testing.T) {
	mayBe, mayNot := 0, 0
	for seed := range int64(400) {
		r := rand.New(rand.NewSource(seed))
		h := hists.Randomly(r.Intn)
		if !may(h) {
			t.Fatal(seed, broken(h))
		}
		holds(t, h)
		for range 20 {
			other := clone(h)
			spoil(r, &other)
			holdsAll(t, other)
			if got, want := hist.Same(h, other), sameHist(h, other); got != want {
				t.Fatalf("Same(%v, %v): %t", brief(h), brief(other), got)
			}
			if may(other) {
				mayBe++
			} else {
				mayNot++
			}
			e := randomEntry(r, h)
			holdsAdd(t, h, e)
			holdsAdd(t, other, e)
		}
	}
	if mayBe < 1000 || mayNot < 4000 {
		t.Error(mayBe, mayNot)
	}
}

// randomEntry makes an entry that may mostly be added to a history.
func randomEntry(r *rand.Rand, h hist.Hist) api.Entry {
	site := 1 + r.Intn(maxSites)
	if r.Intn(2) == 0 && len(h.List) > 0 {
		site = h.List[r.Intn(len(h.List))].Op.Name.Site
	}
	size, _ := modelRun(opsOf(h.List), len(h.Base))
	op := model.Picked(r.Intn, name(site, countOf(reached(h), site)+1), size)
	op.Num = []int{0, h.Num + 1}[r.Intn(2)]
	e := entry(op)
	if r.Intn(3) == 0 {
		n := []*int{&e.Op.Num, &e.Op.Name.Seq, &e.Op.Name.Site, &e.Edit.Name.Seq, &e.Edit.Kind, &e.Edit.Context, &e.Edit.Len, &e.Op.At}[r.Intn(8)]
		*n = nudged(r, *n)
	}
	return e
}

// P13.2: a history grows, entry by entry, number by number; what is pending goes, too.
func TestGrow(t *testing.T) {
	for seed := range int64(20) {
		r := rand.New(rand.NewSource(seed))
		h := hists.Randomly(r.Intn)
		for k := range 60 {
			switch pick := r.Intn(9); {
			case pick == 0:
				next, err := hist.Pass(h)
				if err != api.OK || next.Num != h.Num+1 {
					t.Fatal(seed, k, err)
				}
				h = next
			case pick == 1 || pendingOf(h) > 3:
				h = hist.Cut(h)
			default:
				if next, err := holdsAdd(t, h, randomEntry(r, h)); err == api.OK {
					h = next
				}
			}
			holdsAll(t, h)
			holdsReplay(t, h, len(h.List))
			if n := len(h.List); n > 0 {
				holdsMoves(t, h, r.Intn(n), r.Intn(n))
			}
		}
	}
}
