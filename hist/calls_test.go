package hist_test

import (
	"slices"
	"strings"
	"testing"

	"foolscap/api"
	"foolscap/hist"
	"foolscap/model"
)

// P13.1: a document that is replayed is its own: what is done to it is done to no other.
func TestReplayOwn(t *testing.T) {
	h := sample()
	defer unchanged(t, h)()
	for k := range len(h.List) + 1 {
		one, err := hist.Replay(h, k)
		other, otherErr := hist.Replay(h, k)
		if err != api.OK || otherErr != api.OK || one == other {
			t.Fatal(k, err, otherErr)
		}
		want := other.Cells()
		if err := one.Do(insertion(name(9, 9), 0, 0, "nine")); err != api.OK {
			t.Fatal(err)
		}
		if err := one.Do(deletion(name(9, 10), 0, 0, one.Size())); err != api.OK {
			t.Fatal(err)
		}
		if err := one.Drop(one.Gone()); err != api.OK || one.Size() != 0 {
			t.Fatal(err)
		}
		if !slices.Equal(other.Cells(), want) {
			t.Errorf("%d: the other document is changed", k)
		}
		holdsReplay(t, h, k)
	}
}

// P13.1: a document that is replayed goes on as layer 12's: it knows its names.
func TestReplayGoesOn(t *testing.T) {
	h := sample()
	for k := range len(h.List) + 1 {
		d, err := hist.Replay(h, k)
		if err != api.OK {
			t.Fatal(k, err)
		}
		for i, e := range h.List {
			if e.Op.Kind != api.Ins {
				continue
			}
			e.Op.At = 0
			want := api.OK
			if i < k {
				want = api.ErrTwice
			}
			if err := d.Do(e.Op); err != want {
				t.Errorf("behind %d entries, the entry %d again: %d, not %d", k, i, err, want)
			}
		}
		if err := d.Do(insertion(name(2, 1), 0, 0, "z")); err != api.ErrTwice {
			t.Error(k, err)
		}
	}
}

// P13.2: what may be added, written out.
func TestAdd(t *testing.T) {
	// Num 12, the numbers 5, 7, 8 and 11, twelve cells.
	for _, x := range []struct {
		op   api.Op
		want api.Errno
	}{
		{insertion(name(1, 4), 13, 0, "a"), api.OK}, {insertion(name(9, 1), 13, 12, "a"), api.OK}, {deletion(name(5, 3), 13, 0, 12), api.OK}, {deletion(name(5, 3), 13), api.OK}, {insertion(name(2, 3), 13, 5, strings.Repeat("\u20ac", maxText)), api.OK},
		{insertion(name(1, 4), 0, 0, "a"), api.OK}, {insertion(name(9, 1), 0, 12, "a"), api.OK}, {deletion(name(5, 3), 0, 0, 12), api.OK},
		// Numbers: Num, one above, two above, those of other entries, such as may not be.
		{insertion(name(1, 4), 12, 0, "a"), api.ErrOrder}, {insertion(name(1, 4), 14, 0, "a"), api.ErrOrder}, {insertion(name(1, 4), 11, 0, "a"), api.ErrOrder}, {insertion(name(1, 4), 4, 0, "a"), api.ErrOrder}, {insertion(name(1, 4), 1, 0, "a"), api.ErrOrder}, {insertion(name(1, 4), -1, 0, "a"), api.ErrOrder}, {insertion(name(1, 4), -13, 0, "a"), api.ErrOrder}, {insertion(name(1, 4), maxNum, 0, "a"), api.ErrOrder}, {insertion(name(1, 4), maxNum+1, 0, "a"), api.ErrOrder},
		// Names: there already, further above, none.
		{insertion(name(1, 3), 13, 0, "a"), api.ErrArg}, {insertion(name(1, 2), 13, 0, "a"), api.ErrArg}, {insertion(name(1, 1), 13, 0, "a"), api.ErrArg}, {insertion(name(1, 5), 13, 0, "a"), api.ErrArg}, {insertion(name(9, 2), 13, 0, "a"), api.ErrArg}, {deletion(name(4, 1), 0), api.ErrArg}, {deletion(name(4, 3), 0), api.ErrArg}, {insertion(name(17, 1), 0, 0, "a"), api.ErrArg}, {insertion(name(0, 1), 13, 0, "a"), api.ErrArg}, {insertion(name(6, 0), 13, 0, "a"), api.ErrArg},
		// Operations: upon what the last one leaves.
		{insertion(name(9, 1), 13, 13, "a"), api.ErrArg}, {insertion(name(9, 1), 0, -1, "a"), api.ErrArg}, {insertion(name(9, 1), 0, 0, ""), api.ErrArg}, {insertion(name(9, 1), 0, 0, "\xff"), api.ErrArg}, {deletion(name(5, 3), 13, 0, 13), api.ErrArg}, {deletion(name(5, 3), 0, 12, 1), api.ErrArg}, {deletion(name(5, 3), 0, 0, 0), api.ErrArg}, {api.Op{Name: name(5, 3)}, api.ErrArg}, {api.Op{Name: name(5, 3), Kind: 3, Num: 13}, api.ErrArg}, {api.Op{}, api.ErrArg},
	} {
		h := numbered()
		got, err := holdsAdd(t, h, entry(x.op))
		if err != x.want {
			t.Errorf("Add of %v: %d, not %d", short(x.op), err, x.want)
		}
		if err != api.OK {
			continue
		}
		if want := max(12, x.op.Num); got.Num != want || got.From != 4 || len(got.List) != 5 || !alike(got.List[4].Op, x.op) {
			t.Errorf("Add of %v: %v", short(x.op), brief(got))
		}
		holds(t, got)
	}
}

// P13.2: an entry without a number goes behind pending ones of its site alone; one with a number goes behind none.
func TestAddPending(t *testing.T) {
	for _, x := range []struct {
		op   api.Op
		want api.Errno
	}{
		{insertion(name(3, 8), 0, 14, "a"), api.OK}, {deletion(name(3, 8), 0, 0, 14), api.OK}, {deletion(name(3, 8), 0), api.OK},
		{insertion(name(3, 7), 0, 0, "a"), api.ErrArg}, {insertion(name(3, 9), 0, 0, "a"), api.ErrArg}, {insertion(name(1, 4), 0, 0, "a"), api.ErrArg}, {insertion(name(9, 1), 0, 0, "a"), api.ErrArg}, {deletion(name(4, 2), 0), api.ErrArg},
		{insertion(name(3, 8), 13, 0, "a"), api.ErrState}, {insertion(name(1, 4), 13, 0, "a"), api.ErrState}, {insertion(name(1, 4), 12, 0, "a"), api.ErrState}, {insertion(name(1, 4), 14, 0, "a"), api.ErrState}, {insertion(name(1, 4), -1, 0, "a"), api.ErrState}, {api.Op{Num: 13}, api.ErrState}, {api.Op{Num: 1}, api.ErrState}, {api.Op{Num: maxNum + 1}, api.ErrState},
	} {
		got, err := holdsAdd(t, sample(), entry(x.op))
		if err != x.want {
			t.Errorf("Add of %v: %d, not %d", x.op, err, x.want)
		}
		if err == api.OK && (got.Num != 12 || len(got.List) != 7) {
			t.Errorf("Add of %v: %v", x.op, brief(got))
		}
	}
}

// P13.2: up to the greatest number.
func TestAddNum(t *testing.T) {
	ins := func(num int) api.Entry { return entry(insertion(name(1, 1), num, 0, "a")) }
	for _, x := range []struct{ num, with, want int }{
		{0, 1, 0}, {0, 2, int(api.ErrOrder)}, {0, 0, 0}, {0, -1, int(api.ErrOrder)}, {1, 1, int(api.ErrOrder)}, {1, 2, 0}, {1, 3, int(api.ErrOrder)},
		{maxNum - 1, maxNum, 0}, {maxNum - 1, maxNum + 1, int(api.ErrOrder)}, {maxNum - 1, maxNum - 1, int(api.ErrOrder)}, {maxNum, maxNum + 1, int(api.ErrArg)}, {maxNum, maxNum, int(api.ErrOrder)}, {maxNum, maxNum + 2, int(api.ErrOrder)}, {maxNum, 0, 0}, {maxNum, 1, int(api.ErrOrder)},
	} {
		for _, from := range []int{0, x.num} {
			got, err := holdsAdd(t, hist.Hist{From: from, Num: x.num}, ins(x.with))
			if int(err) != x.want || err == api.OK && got.Num != max(x.num, x.with) {
				t.Errorf("Add of the number %d to Num %d: %d, %d", x.with, x.num, got.Num, err)
			}
		}
	}
}

// P13.2: to MaxList entries nothing is added, whatever it is.
func TestAddFull(t *testing.T) {
	for _, pending := range []int{maxList, 300, 0} {
		h := long(maxList-1, pending)
		seq := countOf(reached(h), 7) + 1
		size, _ := modelRun(opsOf(h.List), len(h.Base))
		op := insertion(name(7, seq), h.Num+1, size, "z")
		if pending < maxList {
			holdsAdd(t, h, entry(op))
			op.Num = 0
		}
		holdsAdd(t, h, entry(insertion(name(7, seq), op.Num, size+1, "z")))
		full, err := holdsAdd(t, h, entry(op))
		if err != api.OK || len(full.List) != maxList {
			t.Fatal(pending, err)
		}
		for _, x := range []api.Op{{}, insertion(name(7, seq+1), 0, 0, "z"), deletion(name(7, seq+1), 0), insertion(name(8, 9), full.Num+1, 0, "z"), insertion(name(8, 9), 1, 0, "z"), insertion(name(7, seq), -1, -1, "")} {
			if _, err := holdsAdd(t, full, entry(x)); err != api.ErrHistory {
				t.Errorf("Add of %v to MaxList entries: %d", x, err)
			}
		}
		if next, err := hist.Pass(full); err != api.OK || next.Num != full.Num+1 {
			t.Error(err)
		}
		if cut := hist.Cut(full); len(cut.List) != min(pending, maxList) {
			t.Error(len(cut.List))
		}
	}
}

// P13.2: the edit is the entry's: it may be, and is its operation's.
func TestAddEdit(t *testing.T) {
	for i, do := range []func(e *api.Edit){
		func(e *api.Edit) { e.Name.Seq++ }, func(e *api.Edit) { e.Name.Site++ }, func(e *api.Edit) { e.Name = api.Name{} },
		func(e *api.Edit) { e.Kind, e.Len, e.Text = api.Del, 1, "" }, func(e *api.Edit) { e.Kind = 0 }, func(e *api.Edit) { e.Kind = 3 },
		func(e *api.Edit) { e.Context = -1 }, func(e *api.Edit) { e.Context = maxNum + 1 }, func(e *api.Edit) { e.At = -1 }, func(e *api.Edit) { e.At = maxCells + 1 }, func(e *api.Edit) { e.Len = 1 }, func(e *api.Edit) { e.Text = "" }, func(e *api.Edit) { e.Text = "\xff" },
	} {
		for _, num := range []int{0, 13} {
			e := entry(insertion(name(1, 4), num, 0, "a"))
			if _, err := holdsAdd(t, numbered(), e); err != api.OK {
				t.Fatal(err)
			}
			do(&e.Edit)
			if _, err := holdsAdd(t, numbered(), e); err != api.ErrArg {
				t.Errorf("Add of the edit %d: %d", i, err)
			}
			e.Op.Num = 14
			if _, err := holdsAdd(t, numbered(), e); err != api.ErrOrder {
				t.Errorf("Add of the edit %d, out of order: %d", i, err)
			}
			if _, err := holdsAdd(t, sample(), e); err != api.ErrState {
				t.Errorf("Add of the edit %d, behind pending ones: %d", i, err)
			}
		}
	}
}

// P13.2: one number more, up to the greatest one, with what is pending and without.
func TestPass(t *testing.T) {
	for _, x := range []struct {
		num  int
		want api.Errno
	}{
		{12, api.OK}, {13, api.OK}, {1 << 31, api.OK}, {1 << 32, api.OK}, {maxNum - 1, api.OK}, {maxNum, api.ErrEnd},
	} {
		for _, h := range []hist.Hist{sample(), numbered(), {}, {Base: sample().Base, Vector: []int{1, 1, 5}, From: x.num}, {From: 12}} {
			h.Num = x.num
			holdsAll(t, h)
			got, err := hist.Pass(h)
			if err != x.want || err == api.OK && (got.Num != x.num+1 || got.From != h.From) {
				t.Errorf("Pass of Num %d: %d, %d", x.num, got.Num, err)
			}
		}
	}
	// A number that was passed is behind, and the next one can be added.
	h, _ := hist.Pass(numbered())
	if _, err := holdsAdd(t, h, entry(insertion(name(1, 4), 13, 0, "a"))); err != api.ErrOrder {
		t.Error(err)
	}
	if got, err := holdsAdd(t, h, entry(insertion(name(1, 4), 14, 0, "a"))); err != api.OK || got.Num != 14 {
		t.Error(err)
	}
}

// P13.2: without what is pending: nothing, something, everything.
func TestCut(t *testing.T) {
	for n := range 7 {
		h := sample()
		h.List = h.List[:n]
		got := hist.Cut(h)
		if len(got.List) != min(n, 4) || got.Num != 12 || hist.Pending(got) != 0 || !alikeAll(hist.Ops(got), opsOf(h.List)[:min(n, 4)]) {
			t.Errorf("Cut of %d entries: %v", n, brief(got))
		}
		h.List, h.From = sample().List[4:], 12
		h.List[0].Op.At, h.List[1].Op.Spans = 0, list(0, 2)
		h.List = h.List[:min(n, 2)]
		if got := hist.Cut(h); len(got.List) != 0 || got.From != 12 || got.Num != 12 || len(got.Base) != 7 || len(got.Vector) != 5 {
			t.Errorf("Cut of %d pending entries: %v", n, brief(got))
		}
		holdsAll(t, h)
	}
}

// P13.3: the ways of the sample, written out.
func TestMoves(t *testing.T) {
	h := sample()
	at := func(num, p int) api.Op {
		op := h.List[num].Op
		op.At = p
		return op
	}
	of := func(num int, spans ...int) api.Op {
		op := h.List[num].Op
		op.Spans = list(spans...)
		return op
	}
	as := opsOf(h.List)
	for _, x := range []struct {
		from, to int
		want     [][]api.Op
		err      api.Errno
	}{
		// From and to alike.
		{0, 0, [][]api.Op{as}, api.OK}, {3, 3, [][]api.Op{as}, api.OK}, {5, 5, [][]api.Op{as}, api.OK},
		// Neighbours.
		{2, 1, [][]api.Op{as, {as[0], as[2], as[1], as[3], as[4], as[5]}}, api.OK},
		{3, 2, [][]api.Op{as, {as[0], as[1], as[3], at(2, 11), as[4], as[5]}}, api.OK},
		{4, 3, [][]api.Op{as, {as[0], as[1], as[2], at(4, 1), at(3, 5), as[5]}}, api.OK},
		// All the way.
		{2, 0, [][]api.Op{as, {as[0], as[2], as[1], as[3], as[4], as[5]}, {at(2, 7), as[0], as[1], as[3], as[4], as[5]}}, api.OK},
		{4, 0, [][]api.Op{
			as,
			{as[0], as[1], as[2], at(4, 1), at(3, 5), as[5]},
			{as[0], as[1], at(4, 1), at(2, 12), at(3, 5), as[5]},
			{as[0], at(4, 1), of(1, 0, 1, 5, 3), at(2, 12), at(3, 5), as[5]},
			{at(4, 1), at(0, 4), of(1, 0, 1, 5, 3), at(2, 12), at(3, 5), as[5]},
		}, api.OK},
		// On others: wholly, partly; ahead of that it may be brought.
		{3, 1, [][]api.Op{as, {as[0], as[1], as[3], at(2, 11), as[4], as[5]}, {as[0], as[3], of(1, 0, 1, 4, 3), at(2, 11), as[4], as[5]}}, api.OK}, {3, 0, nil, api.ErrLost},
		{1, 0, nil, api.ErrLost}, {5, 4, nil, api.ErrLost}, {5, 0, nil, api.ErrLost}, {2, 0, [][]api.Op{as, {as[0], as[2], as[1], as[3], as[4], as[5]}, {at(2, 7), as[0], as[1], as[3], as[4], as[5]}}, api.OK},
		// Places that aren't there; to above from; whether a swap could be isn't asked.
		{-1, 0, nil, api.ErrRange}, {-1, -1, nil, api.ErrRange}, {6, 0, nil, api.ErrRange}, {6, 6, nil, api.ErrRange}, {7, 0, nil, api.ErrRange}, {0, 1, nil, api.ErrRange}, {4, 5, nil, api.ErrRange}, {5, 6, nil, api.ErrRange}, {5, -1, nil, api.ErrRange}, {1, -1, nil, api.ErrRange}, {0, -1, nil, api.ErrRange},
	} {
		got, err := hist.Moves(h, x.from, x.to)
		if err != x.err || !slices.EqualFunc(got, x.want, alikeAll) {
			t.Errorf("Moves(sample, %d, %d): %v, %d, not %v, %d", x.from, x.to, got, err, x.want, x.err)
		}
		holdsMoves(t, h, x.from, x.to)
	}
	for _, h := range []hist.Hist{{}, {Base: h.Base, Vector: h.Vector, Num: 4}} {
		for _, p := range []int{-1, 0, 1} {
			if l, err := hist.Moves(h, p, p); len(l) != 0 || err != api.ErrRange {
				t.Error(p, l, err)
			}
		}
	}
}

// P13.3, P13.4: all ways of all histories of three of some operations upon few cells.
func TestMovesSmall(t *testing.T) {
	base := []api.Cell{cell(1, 1, 0, 'a', false), cell(1, 1, 1, 'b', true), cell(1, 1, 2, 'c', false)}
	some := func(site, num, size int) []api.Op {
		n := name(site, 1)
		l := []api.Op{deletion(n, num), deletion(n, num, 0, size), deletion(n, num, 1, 2), {Name: n, Num: num, Kind: api.Del, Spans: model.Each(1, size)}}
		for p := range size + 1 {
			l = append(l, insertion(n, num, p, "xy"))
		}
		return l
	}
	lost, moved := 0, 0
	for _, sites := range [][]int{{2, 3, 4}, {4, 3, 2}, {3, 4, 2}} {
		for _, one := range some(sites[0], 5, 3) {
			size := 3 + model.Adds(one)
			for _, two := range some(sites[1], 6, size) {
				size := size + model.Adds(two)
				for _, three := range some(sites[2], 0, size) {
					h := hist.Hist{Base: base, Vector: []int{1}, From: 4, Num: 7, List: entries(one, two, three)}
					holdsMoves(t, h, 2, 0)
					holdsMoves(t, h, 1, 0)
					holdsMoves(t, h, 2, 1)
					if _, err := hist.Moves(h, 2, 0); err == api.OK {
						moved++
					} else {
						lost++
					}
				}
			}
		}
	}
	if moved < 200 || lost < 200 {
		t.Error(moved, lost)
	}
}

// P13.3, P13.4: long ways, in a long history.
func TestMovesLong(t *testing.T) {
	h := long(60, 50)
	holdsMoves(t, h, 59, 59)
	for _, from := range []int{59, 47, 30, 1} {
		for to := from; to >= 0; to-- {
			if _, err := hist.Moves(h, from, to); err != api.OK {
				holdsMoves(t, h, from, to)
				to++
				holdsMoves(t, h, from, to)
				break
			}
			if to == 0 {
				holdsMoves(t, h, from, to)
			}
		}
	}
	// All the way of MaxList entries: what is deleted at the end was there ahead of all.
	h = long(maxList, maxList)
	size, _ := modelRun(opsOf(h.List[:maxList-1]), len(h.Base))
	last := &h.List[maxList-1]
	doc := play(h.Base, opsOf(h.List[:maxList-1])...)
	p := slices.IndexFunc(doc, func(c api.Cell) bool { return alikeNames(c.Name, name(1, 1)) && c.Off == 2 })
	last.Op = deletion(last.Op.Name, last.Op.Num, p, 1)
	last.Edit.Kind, last.Edit.Len, last.Edit.Text = api.Del, 1, ""
	got, err := hist.Moves(h, maxList-1, 0)
	if err != api.OK || len(got) != maxList || !sameSpans(got[maxList-1][0].Spans, list(4, 1)) || size < 400 {
		t.Fatal(err, len(got), size)
	}
	want := play(doc, last.Op)
	for _, k := range []int{0, 1, 200, maxList - 1} {
		if !slices.Equal(replayed(t, h.Base, got[k]), want) {
			t.Errorf("behind %d swaps: another document", k)
		}
	}
}

// P13.3: which error is told of a place that isn't there, where a swap couldn't be either; and of a swap behind others that can.
func TestMovesErrors(t *testing.T) {
	h := hist.Hist{Num: 4, List: entries(insertion(name(1, 1), 1, 0, "abc"), insertion(name(2, 1), 2, 1, "d"), insertion(name(3, 1), 3, 4, "e"), insertion(name(3, 2), 4, 2, "f"))}
	for from := range 4 {
		if l, err := hist.Moves(h, from, -1); len(l) != 0 || err != api.ErrRange {
			t.Error(from, l, err)
		}
		holdsMoves(t, h, from, from+1)
	}
	for _, x := range []struct {
		from, to int
		want     api.Errno
	}{
		{1, 0, api.ErrLost}, {2, 1, api.OK}, {2, 0, api.OK}, {3, 2, api.OK}, {3, 1, api.OK}, {3, 0, api.ErrLost},
	} {
		if l, err := hist.Moves(h, x.from, x.to); err != x.want || err != api.OK && len(l) != 0 {
			t.Error(x.from, x.to, l, err)
		}
		holdsMoves(t, h, x.from, x.to)
	}
}

// P13.1: two histories of which one field alone is unlike, whether they may be or not.
func TestSame(t *testing.T) {
	changes := []func(h *hist.Hist){
		func(h *hist.Hist) { h.From-- }, func(h *hist.Hist) { h.Num++ }, func(h *hist.Hist) { h.From, h.Num = h.Num, h.From },
		func(h *hist.Hist) { h.Vector[0]++ }, func(h *hist.Hist) { h.Vector[4]++ }, func(h *hist.Hist) { h.Vector = h.Vector[:4] }, func(h *hist.Hist) { h.Vector = append(h.Vector, 0) }, func(h *hist.Hist) { h.Vector = append(h.Vector, 1) }, func(h *hist.Hist) { h.Vector = nil }, func(h *hist.Hist) { h.Vector[0], h.Vector[2] = h.Vector[2], h.Vector[0] },
		func(h *hist.Hist) { h.Base = nil }, func(h *hist.Hist) { h.Base = h.Base[:6] }, func(h *hist.Hist) { h.Base = h.Base[1:] }, func(h *hist.Hist) { h.Base = append(h.Base, h.Base[6]) }, func(h *hist.Hist) { h.Base = append(h.Base, api.Cell{}) }, func(h *hist.Hist) { h.Base[0], h.Base[1] = h.Base[1], h.Base[0] },
		func(h *hist.Hist) { h.List = nil }, func(h *hist.Hist) { h.List = h.List[:5] }, func(h *hist.Hist) { h.List = h.List[1:] }, func(h *hist.Hist) { h.List = append(h.List, h.List[5]) }, func(h *hist.Hist) { h.List = append(h.List, api.Entry{}) }, func(h *hist.Hist) { h.List[0], h.List[3] = h.List[3], h.List[0] },
	}
	for _, i := range []int{0, 3, 6} {
		changes = append(changes,
			func(h *hist.Hist) { h.Base[i].Name.Site++ }, func(h *hist.Hist) { h.Base[i].Name.Seq++ }, func(h *hist.Hist) { h.Base[i].Off++ }, func(h *hist.Hist) { h.Base[i].R++ }, func(h *hist.Hist) { h.Base[i].Gone = !h.Base[i].Gone }, func(h *hist.Hist) { h.Base[i] = api.Cell{} })
	}
	for i := range sample().List {
		changes = append(changes,
			func(h *hist.Hist) { h.List[i].Op.Name.Site++ }, func(h *hist.Hist) { h.List[i].Op.Name.Seq++ }, func(h *hist.Hist) { h.List[i].Op.Num++ }, func(h *hist.Hist) { h.List[i].Op.Kind++ }, func(h *hist.Hist) { h.List[i].Op.At++ }, func(h *hist.Hist) { h.List[i].Op.Text += "a" }, func(h *hist.Hist) { h.List[i].Op.Spans = append(h.List[i].Op.Spans, api.Span{}) }, func(h *hist.Hist) { h.List[i].Op.Spans = list(0, 1) }, func(h *hist.Hist) { h.List[i].Op = api.Op{} },
			func(h *hist.Hist) { h.List[i].Edit.Name.Site++ }, func(h *hist.Hist) { h.List[i].Edit.Name.Seq++ }, func(h *hist.Hist) { h.List[i].Edit.Context++ }, func(h *hist.Hist) { h.List[i].Edit.Kind++ }, func(h *hist.Hist) { h.List[i].Edit.At++ }, func(h *hist.Hist) { h.List[i].Edit.Len++ }, func(h *hist.Hist) { h.List[i].Edit.Text += "a" }, func(h *hist.Hist) { h.List[i].Edit = api.Edit{} })
	}
	for _, i := range []int{1, 5} {
		changes = append(changes, func(h *hist.Hist) { h.List[i].Op.Spans[1].From++ }, func(h *hist.Hist) { h.List[i].Op.Spans[0].Len++ }, func(h *hist.Hist) { h.List[i].Op.Spans = h.List[i].Op.Spans[:1] }, func(h *hist.Hist) { h.List[i].Op.Spans = nil })
	}
	mayNot := clone(sample())
	mayNot.From, mayNot.Num, mayNot.Vector[3], mayNot.Base[1].Off, mayNot.List[0].Op.At = 99, -7, -1, -1, -1
	for i, do := range changes {
		for _, from := range []hist.Hist{sample(), mayNot} {
			h, again := clone(from), clone(from)
			do(&h)
			do(&again)
			if hist.Same(from, h) || hist.Same(h, from) {
				t.Errorf("the change %d is not seen", i)
			}
			if !hist.Same(h, again) || !hist.Same(h, h) || !hist.Same(from, from) {
				t.Errorf("the change %d: not the same as itself", i)
			}
		}
	}
	if !hist.Same(hist.Hist{}, hist.Hist{}) || hist.Same(hist.Hist{}, sample()) || hist.Same(sample(), hist.Hist{}) {
		t.Error("a zero one")
	}
}
