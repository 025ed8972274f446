package hist_test

import (
	"slices"
	"testing"
	"unsafe"

	"foolscap/api"
	"foolscap/hist"
	"foolscap/model"
)

// roomy tells a list with spare room behind it that is filled with a thing.
func roomy[T any](l []T, thing T) []T {
	room := slices.Clone(l)
	for range 9 {
		room = append(room, thing)
	}
	return room[:len(l)]
}

// ink writes texts into bytes that can be written over.
type ink struct {
	bytes [][]byte
	was   []string
}

// text tells a text that stands in bytes of its own.
func (i *ink) text(s string) string {
	if s == "" {
		return ""
	}
	b := []byte(s)
	i.bytes, i.was = append(i.bytes, b), append(i.was, s)
	return unsafe.String(&b[0], len(b))
}

// same tells whether all texts are as they were written.
func (i *ink) same() bool {
	for k, b := range i.bytes {
		if string(b) != i.was[k] {
			return false
		}
	}
	return true
}

// blot writes over all texts.
func (i *ink) blot() {
	for _, b := range i.bytes {
		for k := range b {
			b[k] = '#'
		}
	}
}

// spareCell, spareEntry and spareSpan fill spare room.
var (
	spareCell  = api.Cell{Name: api.Name{Site: -7, Seq: -7}, Off: -7, R: -7, Gone: true}
	spareSpan  = api.Span{From: -7, Len: -7}
	spareEntry = api.Entry{Op: api.Op{Num: -7}, Edit: api.Edit{At: -7}}
)

// roomyEntry tells an entry with spare room behind its spans, and texts in ink.
func roomyEntry(i *ink, e api.Entry) api.Entry {
	e.Op.Spans = roomy(e.Op.Spans, spareSpan)
	e.Op.Text, e.Edit.Text = i.text(e.Op.Text), i.text(e.Edit.Text)
	return e
}

// roomyHist tells a history with spare room behind each of its lists, and texts in ink.
func roomyHist(i *ink, h hist.Hist) hist.Hist {
	h.Base, h.Vector, h.List = roomy(h.Base, spareCell), roomy(h.Vector, -7), roomy(h.List, spareEntry)
	for k := range h.List {
		h.List[k] = roomyEntry(i, h.List[k])
	}
	return h
}

// room is a history with what lies behind its lists, within their arrays, in memory of its own.
func room(h hist.Hist) hist.Hist {
	h.Base, h.Vector, h.List = slices.Clone(h.Base[:cap(h.Base)]), slices.Clone(h.Vector[:cap(h.Vector)]), slices.Clone(h.List[:cap(h.List)])
	for i := range h.List {
		spans := h.List[i].Op.Spans
		h.List[i].Op.Spans = slices.Clone(spans[:cap(spans)])
	}
	return h
}

// told is all that was answered.
type told struct {
	cells   [][]api.Cell
	numbers [][]int
	entries [][]api.Entry
	ops     [][]api.Op
	spans   [][]api.Span
}

// hist takes in what a history holds.
func (x *told) hist(h hist.Hist) {
	x.cells, x.numbers, x.entries = append(x.cells, h.Base), append(x.numbers, h.Vector), append(x.entries, h.List)
	for _, e := range h.List {
		x.spans = append(x.spans, e.Op.Spans)
	}
}

// list takes in operations.
func (x *told) list(l []api.Op) {
	x.ops = append(x.ops, l)
	for _, op := range l {
		x.spans = append(x.spans, op.Spans)
	}
}

// anyShared tells whether two of some lists have memory in common.
func anyShared[T any](all [][]T) bool {
	for i := range all {
		for k := range i {
			if model.Shared(all[i], all[k]) {
				return true
			}
		}
	}
	return false
}

// blotAll writes over lists, their spare room too.
func blotAll[T any](all [][]T, thing T) {
	for _, l := range all {
		l = l[:cap(l)]
		for i := range l {
			l[i] = thing
		}
	}
}

// askAll asks all that tells lists of a history; what is told goes into x.
func askAll(t *testing.T, x *told, h hist.Hist, e api.Entry) (hist.Hist, hist.Hist, hist.Hist, [][]api.Op) {
	t.Helper()
	x.list(hist.Ops(h))
	v, _ := hist.Reach(h)
	x.numbers = append(x.numbers, v)
	for _, k := range []int{0, len(h.List)} {
		d, err := hist.Replay(h, k)
		if err != api.OK {
			t.Fatal(err)
		}
		x.cells = append(x.cells, d.Cells())
	}
	added, err := hist.Add(h, e)
	if err != api.OK {
		t.Fatal(err)
	}
	passed, err := hist.Pass(h)
	if err != api.OK {
		t.Fatal(err)
	}
	cut := hist.Cut(h)
	for _, h := range []hist.Hist{added, passed, cut} {
		x.hist(h)
	}
	moves, err := hist.Moves(h, 4, 0)
	if err != api.OK {
		t.Fatal(err)
	}
	for _, l := range moves {
		x.list(l)
	}
	return added, passed, cut, moves
}

// Rule 5: what is handed in isn't changed, its spare room neither; nor is it kept: whatever is written over it, what was told stays.
func TestHandedIn(t *testing.T) {
	for _, op := range []api.Op{insertion(name(3, 8), 0, 3, "mine"), deletion(name(3, 8), 0, 1, 2, 8, 3)} {
		var i ink
		h := roomyHist(&i, sample())
		e := roomyEntry(&i, entry(op))
		was := room(h)
		spansWas := slices.Clone(e.Op.Spans[:cap(e.Op.Spans)])
		var x told
		added, passed, cut, moves := askAll(t, &x, h, e)
		d, _ := hist.Replay(h, 5)
		ops := hist.Ops(h)
		wantAdded, _ := modelAdd(sample(), entry(op))
		wantPassed, _ := modelPass(sample())
		wantMoves, _ := modelMoves(sample(), 4, 0)
		wantCells := play(sample().Base, opsOf(sample().List[:5])...)
		hist.Same(h, added)
		hist.May(h)
		hist.Pending(h)
		if !sameHist(room(h), was) || !sameSpans(e.Op.Spans[:cap(e.Op.Spans)], spansWas) || !i.same() {
			t.Fatal("what was handed in is changed")
		}
		x = told{}
		x.hist(h)
		x.spans = append(x.spans, e.Op.Spans)
		blotAll(x.spans, api.Span{From: -8, Len: -8})
		blotAll(x.cells, api.Cell{Off: -8})
		blotAll(x.numbers, -8)
		blotAll(x.entries, api.Entry{Op: api.Op{At: -8, Text: "no"}})
		i.blot()
		if !sameHist(added, wantAdded) || !sameHist(passed, wantPassed) || !sameHist(cut, modelCut(sample())) {
			t.Error("a history that was told is changed")
		}
		if !alikeAll(ops, opsOf(sample().List)) || !slices.EqualFunc(moves, wantMoves, alikeAll) {
			t.Error("operations that were told are changed")
		}
		if !slices.Equal(d.Cells(), wantCells) {
			t.Error("a document that was told is changed")
		}
	}
}

// Rule 5: what is told shares no memory with what was handed in, nor with another answer; whatever is written over it, the history stays.
func TestTold(t *testing.T) {
	for _, op := range []api.Op{insertion(name(3, 8), 0, 3, "mine"), deletion(name(3, 8), 0, 1, 2, 8, 3)} {
		h, e := sample(), entry(op)
		var x told
		for range 2 {
			askAll(t, &x, h, e)
		}
		x.hist(h)
		x.spans = append(x.spans, e.Op.Spans)
		if anyShared(x.cells) || anyShared(x.numbers) || anyShared(x.entries) || anyShared(x.ops) || anyShared(x.spans) {
			t.Error("memory is shared")
		}
		h, x = sample(), told{}
		e = entry(op)
		askAll(t, &x, h, e)
		blotAll(x.spans, api.Span{From: -8, Len: -8})
		blotAll(x.cells, api.Cell{Off: -8})
		blotAll(x.numbers, -8)
		blotAll(x.entries, api.Entry{Op: api.Op{At: -8, Text: "no"}})
		blotAll(x.ops, api.Op{At: -8, Text: "no"})
		if !sameHist(h, sample()) || !alike(e.Op, op) {
			t.Error("what was handed in is changed by way of what was told")
		}
		holds(t, h)
	}
}

// Rule 5: nor do empty lists with room behind them lead to what is kept.
func TestToldEmpty(t *testing.T) {
	h := hist.Hist{Base: make([]api.Cell, 0, 4), Vector: make([]int, 0, 4), List: make([]api.Entry, 0, 4), Num: 3}
	del := api.Op{Name: name(1, 1), Num: 4, Kind: api.Del, Spans: make([]api.Span, 0, 4)}
	added, err := hist.Add(h, entry(del))
	if err != api.OK {
		t.Fatal(err)
	}
	again, err := hist.Add(added, entry(insertion(name(1, 2), 5, 0, "a")))
	if err != api.OK {
		t.Fatal(err)
	}
	passed, _ := hist.Pass(h)
	v, _ := hist.Reach(h)
	var x told
	x.list(hist.Ops(added))
	for _, h := range []hist.Hist{h, added, again, passed, hist.Cut(h), hist.Cut(again)} {
		x.hist(h)
	}
	x.numbers = append(x.numbers, v)
	x.spans = append(x.spans, del.Spans)
	if anyShared(x.cells) || anyShared(x.numbers) || anyShared(x.entries) || anyShared(x.spans) {
		t.Error("memory is shared")
	}
}

// Rule 4: nil and empty are one and the same.
func TestNilIsEmpty(t *testing.T) {
	with := func(empty bool) hist.Hist {
		h := hist.Hist{Num: 1, List: entries(deletion(name(1, 1), 1), insertion(name(1, 2), 0, 0, "a"))}
		if empty {
			h.Base, h.Vector = []api.Cell{}, []int{}
			h.List[0].Op.Spans, h.List[1].Op.Spans = []api.Span{}, []api.Span{}
		} else {
			h.List[0].Op.Spans = nil
		}
		return h
	}
	without := []hist.Hist{{}, {Base: []api.Cell{}}, {Vector: []int{}}, {List: []api.Entry{}}, {Base: []api.Cell{}, Vector: []int{}, List: []api.Entry{}}}
	for _, a := range without {
		holds(t, a)
		for _, b := range without {
			if !hist.Same(a, b) {
				t.Error(a, b)
			}
		}
	}
	for _, h := range []hist.Hist{with(false), with(true)} {
		holds(t, h)
		if !hist.Same(h, with(true)) || !hist.Same(h, with(false)) || !hist.Same(with(true), h) {
			t.Error(h)
		}
		for _, spans := range [][]api.Span{nil, {}} {
			op := api.Op{Name: name(1, 3), Kind: api.Del, Spans: spans}
			if _, err := holdsAdd(t, h, entry(op)); err != api.OK {
				t.Error(err)
			}
		}
		op := insertion(name(1, 3), 0, 0, "b")
		op.Spans = []api.Span{}
		if _, err := holdsAdd(t, h, entry(op)); err != api.OK {
			t.Error(err)
		}
	}
}
