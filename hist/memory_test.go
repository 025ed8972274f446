package hist_test

import (
	"slices"
	"testing"
	"unsafe"

	"foolscap/api"
	"foolscap/hist"
	"foolscap/model/hists"
)

// ink writes texts into bytes that can be written over.
type ink struct {
	bytes [][]byte
	was   []string
}

// text tells a text that stands in bytes of its own.
func (i *ink) text(s string) string {
	if s == "" {
		return ""
	}
	b := []byte(s)
	i.bytes, i.was = append(i.bytes, b), append(i.was, s)
	return unsafe.String(&b[0], len(b))
}

// same tells whether all texts are as they were written.
func (i *ink) same() bool {
	for k, b := range i.bytes {
		if string(b) != i.was[k] {
			return false
		}
	}
	return true
}

// blot writes over all texts.
func (i *ink) blot() {
	for _, b := range i.bytes {
		for k := range b {
			b[k] = '#'
		}
	}
}

// askAll asks all that tells lists of a history; what is told goes into x.
func askAll(t *testing.T, x *hists.Told, h hist.Hist, e api.Entry) (hist.Hist, hist.Hist, hist.Hist, [][]api.Op) {
	t.Helper()
	x.List(hist.Ops(h))
	v, _ := hist.Reach(h)
	x.Numbers = append(x.Numbers, v)
	for _, k := range []int{0, len(h.List)} {
		d, err := hist.Replay(h, k)
		if err != api.OK {
			t.Fatal(err)
		}
		x.Cells = append(x.Cells, d.Cells())
	}
	added, err := hist.Add(h, e)
	if err != api.OK {
		t.Fatal(err)
	}
	passed, err := hist.Pass(h)
	if err != api.OK {
		t.Fatal(err)
	}
	cut := hist.Cut(h)
	for _, h := range []hist.Hist{added, passed, cut} {
		x.Hist(h)
	}
	moves, err := hist.Moves(h, 4, 0)
	if err != api.OK {
		t.Fatal(err)
	}
	for _, l := range moves {
		x.List(l)
	}
	return added, passed, cut, moves
}

// Rule 5: what is handed in isn't changed, its spare room neither; nor is it kept: whatever is written over it, what was told stays.
func TestHandedIn(t *testing.T) {
	for _, op := range []api.Op{insertion(name(3, 8), 0, 3, "mine"), deletion(name(3, 8), 0, 1, 2, 8, 3)} {
		var i ink
		h := hists.RoomyHist(i.text, sample())
		e := hists.RoomyEntry(i.text, entry(op))
		was := hists.Room(h)
		spansWas := slices.Clone(e.Op.Spans[:cap(e.Op.Spans)])
		var x hists.Told
		added, passed, cut, moves := askAll(t, &x, h, e)
		d, _ := hist.Replay(h, 5)
		ops := hist.Ops(h)
		wantAdded, _ := modelAdd(sample(), entry(op))
		wantPassed, _ := modelPass(sample())
		wantMoves, _ := modelMoves(sample(), 4, 0)
		wantCells := play(sample().Base, opsOf(sample().List[:5])...)
		hist.Same(h, added)
		hist.May(h)
		hist.Pending(h)
		if !sameHist(hists.Room(h), was) || !sameSpans(e.Op.Spans[:cap(e.Op.Spans)], spansWas) || !i.same() {
			t.Fatal("what was handed in is changed")
		}
		x = hists.Told{}
		x.Hist(h)
		x.Spans = append(x.Spans, e.Op.Spans)
		x.Blot()
		i.blot()
		if !sameHist(added, wantAdded) || !sameHist(passed, wantPassed) || !sameHist(cut, modelCut(sample())) {
			t.Error("a history that was told is changed")
		}
		if !alikeAll(ops, opsOf(sample().List)) || !slices.EqualFunc(moves, wantMoves, alikeAll) {
			t.Error("operations that were told are changed")
		}
		if !slices.Equal(d.Cells(), wantCells) {
			t.Error("a document that was told is changed")
		}
	}
}

// Rule 5: what is told shares no memory with what was handed in, nor with another answer; whatever is written over it, the history stays.
func TestTold(t *testing.T) {
	for _, op := range []api.Op{insertion(name(3, 8), 0, 3, "mine"), deletion(name(3, 8), 0, 1, 2, 8, 3)} {
		h, e := sample(), entry(op)
		var x hists.Told
		for range 2 {
			askAll(t, &x, h, e)
		}
		x.Hist(h)
		x.Spans = append(x.Spans, e.Op.Spans)
		if x.AnyShared() {
			t.Error("memory is shared")
		}
		h, x = sample(), hists.Told{}
		e = entry(op)
		askAll(t, &x, h, e)
		x.Blot()
		if !sameHist(h, sample()) || !alike(e.Op, op) {
			t.Error("what was handed in is changed by way of what was told")
		}
		holds(t, h)
	}
}

// Rule 5: nor do empty lists with room behind them lead to what is kept.
func TestToldEmpty(t *testing.T) {
	h := hist.Hist{Base: make([]api.Cell, 0, 4), Vector: make([]int, 0, 4), List: make([]api.Entry, 0, 4), Num: 3}
	del := api.Op{Name: name(1, 1), Num: 4, Kind: api.Del, Spans: make([]api.Span, 0, 4)}
	added, err := hist.Add(h, entry(del))
	if err != api.OK {
		t.Fatal(err)
	}
	again, err := hist.Add(added, entry(insertion(name(1, 2), 5, 0, "a")))
	if err != api.OK {
		t.Fatal(err)
	}
	passed, _ := hist.Pass(h)
	v, _ := hist.Reach(h)
	var x hists.Told
	x.List(hist.Ops(added))
	for _, h := range []hist.Hist{h, added, again, passed, hist.Cut(h), hist.Cut(again)} {
		x.Hist(h)
	}
	x.Numbers = append(x.Numbers, v)
	x.Spans = append(x.Spans, del.Spans)
	if x.AnyShared() {
		t.Error("memory is shared")
	}
}

// Rule 4: nil and empty are one and the same.
func TestNilIsEmpty(t *testing.T) {
	with := func(empty bool) hist.Hist {
		h := hist.Hist{Num: 1, List: entries(deletion(name(1, 1), 1), insertion(name(1, 2), 0, 0, "a"))}
		if empty {
			h.Base, h.Vector = []api.Cell{}, []int{}
			h.List[0].Op.Spans, h.List[1].Op.Spans = []api.Span{}, []api.Span{}
		} else {
			h.List[0].Op.Spans = nil
		}
		return h
	}
	without := []hist.Hist{{}, {Base: []api.Cell{}}, {Vector: []int{}}, {List: []api.Entry{}}, {Base: []api.Cell{}, Vector: []int{}, List: []api.Entry{}}}
	for _, a := range without {
		holds(t, a)
		for _, b := range without {
			if !hist.Same(a, b) {
				t.Error(a, b)
			}
		}
	}
	for _, h := range []hist.Hist{with(false), with(true)} {
		holds(t, h)
		if !hist.Same(h, with(true)) || !hist.Same(h, with(false)) || !hist.Same(with(true), h) {
			t.Error(h)
		}
		for _, spans := range [][]api.Span{nil, {}} {
			op := api.Op{Name: name(1, 3), Kind: api.Del, Spans: spans}
			if _, err := holdsAdd(t, h, entry(op)); err != api.OK {
				t.Error(err)
			}
		}
		op := insertion(name(1, 3), 0, 0, "b")
		op.Spans = []api.Span{}
		if _, err := holdsAdd(t, h, entry(op)); err != api.OK {
			t.Error(err)
		}
	}
}
