package collect_test

import (
	"math"
	"math/rand"
	"slices"
	"strings"
	"testing"

	"foolscap/api"
	"foolscap/cells"
	"foolscap/collect"
	"foolscap/hist"
	"foolscap/model"
	"foolscap/model/hists"
)

// The limits, as the chapters write them out.
const (
	maxText  = model.MaxText
	maxCells = model.MaxCells
	maxList  = model.MaxList
	maxSites = model.MaxSites
	maxNum   = model.MaxNum
)

// What the tests take from the model, in short.
var (
	list, name, insertion, deletion    = model.List, model.Name, model.Insertion, model.Deletion
	play, alike, short, shorts         = model.Play, model.Alike, model.Short, model.Shorts
	sameSpans, each, subsets           = model.SameSpans, model.Each, model.Subsets
	cell, entry, entries               = hists.Cell, hists.Entry, hists.Entries
	clone, brief, opsOf, sameHist, may = hists.Clone, hists.Brief, hists.OpsOf, hists.Same, hists.May
)

// huge are numbers far from all limits.
var huge = []int{math.MinInt, math.MinInt + 1, math.MinInt32, -maxCells, -1, maxNum + 1, 1 << 50, math.MaxInt - 1, math.MaxInt}

// fewSpans are spans, no more than can be told.
func fewSpans(l []api.Span) []api.Span {
	return l[:min(len(l), 9)]
}

// holds checks Collect against the model, and tells what came of it.
func holds(t *testing.T, h hist.Hist, upto int) (hist.Hist, []api.Span, api.Errno) {
	t.Helper()
	was := clone(h)
	want, wantPlaces, _, wantErr := hists.Collect(h, upto)
	got, places, err := collect.Collect(h, upto)
	if !sameHist(got, want) || !sameSpans(places, wantPlaces) || err != wantErr {
		t.Fatalf("Collect(%v, %d):\n%v, %v, %d, not\n%v, %v, %d", brief(h), upto, brief(got), fewSpans(places), err, brief(want), fewSpans(wantPlaces), wantErr)
	}
	if !sameHist(h, was) {
		t.Fatalf("Collect(%v, %d) made it %v", brief(was), upto, brief(h))
	}
	return got, places, err
}

// docOf is the document behind all entries of a history that may be.
func docOf(t *testing.T, h hist.Hist) *cells.Doc {
	t.Helper()
	d, err := hist.Replay(h, len(h.List))
	if err != api.OK {
		t.Fatalf("%v: %d", brief(h), err)
	}
	return d
}

// collected checks a history that is collected, and what follows, whatever it came from: it may be; its document is the history's with the told places dropped.
func collected(t *testing.T, h hist.Hist, upto int) hist.Hist {
	t.Helper()
	got, places, err := holds(t, h, upto)
	if err != api.OK {
		t.Fatalf("Collect(%v, %d): %d", brief(h), upto, err)
	}
	if !hist.May(got) || !may(got) {
		t.Fatalf("Collect(%v, %d): %v may not be: %q", brief(h), upto, brief(got), hists.Broken(got))
	}
	whole, left := docOf(t, h), docOf(t, got)
	text := whole.Text()
	if err := whole.Drop(places); err != api.OK {
		t.Fatalf("Collect(%v, %d): Drop of %v: %d", brief(h), upto, fewSpans(places), err)
	}
	if !slices.Equal(whole.Cells(), left.Cells()) || left.Text() != text {
		t.Fatalf("Collect(%v, %d) leaves %v, not %v", brief(h), upto, left.Cells(), whole.Cells())
	}
	opened(t, h, upto, places)
	return got
}

// opened checks the told places by the chapter's last words: those that are Gone in the document behind what is collected, opened by each insertion behind that.
func opened(t *testing.T, h hist.Hist, upto int, places []api.Span) {
	t.Helper()
	var done, rest []api.Op
	for _, e := range h.List {
		if hists.IsCollected(e, upto) {
			done = append(done, e.Op)
		} else {
			rest = append(rest, e.Op)
		}
	}
	var want []api.Span
	for p, c := range play(h.Base, done...) {
		if c.Gone {
			want = model.With(want, p)
		}
	}
	for _, op := range rest {
		if op.Kind == api.Ins {
			want = model.Opened(want, op.At, model.Adds(op))
		}
	}
	if !sameSpans(places, want) {
		t.Fatalf("Collect(%v, %d): the places %v, not %v", brief(h), upto, fewSpans(places), fewSpans(want))
	}
}

// holdsAll checks all that is told of a small history: up to each number, and up to one on either side; each collected further, up to each greater number.
func holdsAll(t *testing.T, h hist.Hist) {
	t.Helper()
	for upto := h.From - 1; upto <= h.Num+1; upto++ {
		if upto < h.From || upto > h.Num {
			if _, _, err := holds(t, h, upto); err != api.ErrRange {
				t.Fatalf("Collect(%v, %d): %d", brief(h), upto, err)
			}
			continue
		}
		twice(t, h, upto)
	}
}

// twice checks a history that is collected up to a number, and that collected up to each number from there on is what the history is, collected up to that.
func twice(t *testing.T, h hist.Hist, upto int) {
	t.Helper()
	once := collected(t, h, upto)
	for more := upto; more <= h.Num; more++ {
		got, _, err := collect.Collect(once, more)
		want, _, wantErr := collect.Collect(h, more)
		if err != api.OK || wantErr != api.OK || !sameHist(got, want) {
			t.Fatalf("Collect(%v), up to %d, then %d:\n%v, %d, not\n%v, %d", brief(h), upto, more, brief(got), err, brief(want), wantErr)
		}
	}
	if _, _, err := collect.Collect(once, upto-1); err != api.ErrRange {
		t.Fatalf("Collect(%v), up to %d, then below it: %d", brief(h), upto, err)
	}
}

// abc is a history of nothing but a few cells, those at the bits set Gone.
func abc(size, gone int) hist.Hist {
	h := hist.Hist{Vector: append(make([]int, 15), 1)}
	for p := range size {
		h.Base = append(h.Base, cell(16, 1, p, 'a'+rune(p), gone>>p&1 == 1))
	}
	return h
}

// The chapter's example; so that the model isn't wrong where the package is, too.
func TestExample(t *testing.T) {
	h := abc(3, 0)
	h.Num, h.List = 2, entries(deletion(name(1, 1), 1, 1, 1), insertion(name(2, 1), 2, 2, "x"))
	want := hist.Hist{Base: []api.Cell{h.Base[0], h.Base[2]}, Vector: append([]int{1}, h.Vector[1:]...), From: 1, Num: 2, List: entries(insertion(name(2, 1), 2, 1, "x"))}
	if got, places, err := collect.Collect(h, 1); !sameHist(got, want) || !sameSpans(places, list(1, 1)) || err != api.OK {
		t.Error(got, places, err)
	}
	if got, places, _, err := hists.Collect(h, 1); !sameHist(got, want) || !sameSpans(places, list(1, 1)) || err != api.OK {
		t.Error("the model:", got, places, err)
	}
	holdsAll(t, h)
}

// holdsLeast checks Least.
func holdsLeast(t *testing.T, acks []int, want int, wantErr api.Errno) {
	t.Helper()
	was := slices.Clone(acks)
	if got, err := collect.Least(acks); got != want || err != wantErr {
		t.Errorf("Least(%v): %d, %d, not %d, %d", acks[:min(len(acks), 9)], got, err, want, wantErr)
	}
	if !slices.Equal(acks, was) {
		t.Errorf("Least made %v %v", was, acks)
	}
}

// P17.1: the least one.
func TestLeast(t *testing.T) {
	for _, x := range []struct {
		acks []int
		want int
	}{
		{[]int{0}, 0}, {[]int{1}, 1}, {[]int{7}, 7}, {[]int{maxNum}, maxNum}, {[]int{maxNum - 1}, maxNum - 1},
		{[]int{3, 8, 5}, 3}, {[]int{8, 3, 5}, 3}, {[]int{8, 5, 3}, 3}, {[]int{5, 8}, 5}, {[]int{8, 5}, 5},
		{[]int{4, 4}, 4}, {[]int{4, 4, 4}, 4}, {[]int{9, 4, 4}, 4}, {[]int{4, 9, 4}, 4}, {[]int{4, 4, 9}, 4},
		{[]int{0, 0}, 0}, {[]int{0, maxNum}, 0}, {[]int{maxNum, 0}, 0}, {[]int{maxNum, 0, maxNum}, 0}, {[]int{maxNum, maxNum}, maxNum}, {[]int{maxNum, maxNum - 1}, maxNum - 1}, {[]int{1, 0}, 0},
		{[]int{1 << 31, 1 << 32, 1<<31 - 1}, 1<<31 - 1}, {[]int{1 << 33, 1<<32 + 1, 1 << 32}, 1 << 32},
	} {
		holdsLeast(t, x.acks, x.want, api.OK)
	}
	r := rand.New(rand.NewSource(1))
	for range 3000 {
		acks := make([]int, 1+r.Intn(30))
		least := maxNum
		for i := range acks {
			acks[i] = r.Intn([]int{1, 3, 100, maxNum + 1}[r.Intn(4)])
			least = min(least, acks[i])
		}
		holdsLeast(t, acks, least, api.OK)
	}
}

// P17.1: no number, and such as may not be, wherever they stand.
func TestLeastNot(t *testing.T) {
	for _, none := range [][]int{nil, {}, make([]int, 0, 4)} {
		holdsLeast(t, none, 0, api.ErrArg)
	}
	for _, n := range append([]int{-2, maxNum + 2}, huge...) {
		for _, others := range [][]int{{}, {0}, {maxNum}, {3, 8, 5}, {0, 0, 0, 0}, {maxNum, 1}} {
			for i := range len(others) + 1 {
				holdsLeast(t, slices.Insert(slices.Clone(others), i, n), 0, api.ErrArg)
				holdsLeast(t, slices.Insert(slices.Clone(others), i, n, n), 0, api.ErrArg)
			}
		}
		for _, other := range huge {
			holdsLeast(t, []int{n, 4, other}, 0, api.ErrArg)
		}
	}
}

// P17.2: what stays of a history of abcde, of which b and d are Gone: what is inserted and deleted around these, and the places that are told.
func TestStays(t *testing.T) {
	for _, x := range []struct {
		does, want []api.Op
		places     []api.Span
	}{
		{nil, nil, list(1, 1, 3, 1)},
		// Insertions ahead of both, between them, behind them; right at either.
		{[]api.Op{insertion(name(1, 1), 1, 0, "xy")}, []api.Op{insertion(name(1, 1), 1, 0, "xy")}, list(3, 1, 5, 1)},
		{[]api.Op{insertion(name(1, 1), 1, 1, "xy")}, []api.Op{insertion(name(1, 1), 1, 1, "xy")}, list(3, 1, 5, 1)},
		{[]api.Op{insertion(name(1, 1), 1, 2, "xy")}, []api.Op{insertion(name(1, 1), 1, 1, "xy")}, list(1, 1, 5, 1)},
		{[]api.Op{insertion(name(1, 1), 1, 3, "xy")}, []api.Op{insertion(name(1, 1), 1, 2, "xy")}, list(1, 1, 5, 1)},
		{[]api.Op{insertion(name(1, 1), 1, 4, "xy")}, []api.Op{insertion(name(1, 1), 1, 2, "xy")}, list(1, 1, 3, 1)},
		{[]api.Op{insertion(name(1, 1), 1, 5, "\u20ac\U0001f642")}, []api.Op{insertion(name(1, 1), 1, 3, "\u20ac\U0001f642")}, list(1, 1, 3, 1)},
		// Deletions of none, of dropped ones alone, of others alone, of both, of all; what touches is one.
		{[]api.Op{deletion(name(1, 1), 1)}, []api.Op{deletion(name(1, 1), 1)}, list(1, 1, 3, 1)},
		{[]api.Op{deletion(name(1, 1), 1, 1, 1)}, []api.Op{deletion(name(1, 1), 1)}, list(1, 1, 3, 1)},
		{[]api.Op{deletion(name(1, 1), 1, 1, 1, 3, 1)}, []api.Op{deletion(name(1, 1), 1)}, list(1, 1, 3, 1)},
		{[]api.Op{deletion(name(1, 1), 1, 0, 1)}, []api.Op{deletion(name(1, 1), 1, 0, 1)}, list(1, 1, 3, 1)},
		{[]api.Op{deletion(name(1, 1), 1, 2, 1)}, []api.Op{deletion(name(1, 1), 1, 1, 1)}, list(1, 1, 3, 1)},
		{[]api.Op{deletion(name(1, 1), 1, 4, 1)}, []api.Op{deletion(name(1, 1), 1, 2, 1)}, list(1, 1, 3, 1)},
		{[]api.Op{deletion(name(1, 1), 1, 0, 1, 2, 1)}, []api.Op{deletion(name(1, 1), 1, 0, 2)}, list(1, 1, 3, 1)},
		{[]api.Op{deletion(name(1, 1), 1, 0, 1, 4, 1)}, []api.Op{deletion(name(1, 1), 1, 0, 1, 2, 1)}, list(1, 1, 3, 1)},
		{[]api.Op{deletion(name(1, 1), 1, 0, 1, 2, 1, 4, 1)}, []api.Op{deletion(name(1, 1), 1, 0, 3)}, list(1, 1, 3, 1)},
		{[]api.Op{deletion(name(1, 1), 1, 0, 2, 3, 2)}, []api.Op{deletion(name(1, 1), 1, 0, 1, 2, 1)}, list(1, 1, 3, 1)},
		{[]api.Op{deletion(name(1, 1), 1, 1, 3)}, []api.Op{deletion(name(1, 1), 1, 1, 1)}, list(1, 1, 3, 1)},
		{[]api.Op{deletion(name(1, 1), 1, 0, 5)}, []api.Op{deletion(name(1, 1), 1, 0, 3)}, list(1, 1, 3, 1)},
		// One behind the other: what was inserted stays, be it deleted or not.
		{[]api.Op{insertion(name(1, 1), 1, 1, "xyz"), deletion(name(2, 1), 2, 2, 4), insertion(name(3, 1), 3, 5, "w"), insertion(name(1, 2), 4, 4, "v"), deletion(name(2, 2), 5, 0, 10)},
			[]api.Op{insertion(name(1, 1), 1, 1, "xyz"), deletion(name(2, 1), 2, 2, 3), insertion(name(3, 1), 3, 4, "w"), insertion(name(1, 2), 4, 4, "v"), deletion(name(2, 2), 5, 0, 8)}, list(5, 1, 8, 1)},
		// Pending ones.
		{[]api.Op{insertion(name(1, 1), 1, 4, "x"), insertion(name(3, 1), 0, 4, "y"), deletion(name(3, 2), 0, 3, 4)},
			[]api.Op{insertion(name(1, 1), 1, 2, "x"), insertion(name(3, 1), 0, 2, "y"), deletion(name(3, 2), 0, 2, 3)}, list(1, 1, 3, 1)},
	} {
		h := abc(5, 0b01010)
		h.Num, h.List = 9, entries(x.does...)
		got, places, err := collect.Collect(h, 0)
		if err != api.OK || !model.AlikeAll(opsOf(got.List), x.want) || !sameSpans(places, x.places) || got.From != 0 || got.Num != 9 || len(got.Base) != 3 {
			t.Errorf("%v:\n%v, %v, %d, not\n%v, %v", shorts(x.does), shorts(opsOf(got.List)), places, err, shorts(x.want), x.places)
		}
		holdsAll(t, h)
	}
}

// P17.2: abc, into which xy is inserted, of which x is deleted, then y; then z is inserted between: what was deleted within what is collected is dropped, what is deleted behind it isn't.
func TestInsertedAndDeleted(t *testing.T) {
	h := abc(3, 0)
	h.Num, h.List = 4, entries(insertion(name(1, 1), 1, 1, "xy"), deletion(name(2, 1), 2, 1, 1), deletion(name(2, 2), 3, 2, 1), insertion(name(1, 2), 4, 2, "z"))
	for upto, x := range []struct {
		base   string
		rest   []api.Op
		places []api.Span
	}{
		{"abc", opsOf(h.List), nil},
		{"axybc", opsOf(h.List[1:]), nil},
		{"aybc", []api.Op{deletion(name(2, 2), 3, 1, 1), insertion(name(1, 2), 4, 1, "z")}, list(1, 1)},
		{"abc", []api.Op{insertion(name(1, 2), 4, 1, "z")}, list(1, 1, 3, 1)},
		{"azbc", nil, list(1, 1, 3, 1)},
	} {
		got, places, err := collect.Collect(h, upto)
		if err != api.OK || textOf(got.Base) != x.base || len(got.Base) != len(x.base) || !model.AlikeAll(opsOf(got.List), x.rest) || !sameSpans(places, x.places) {
			t.Errorf("up to %d: %v, %v, %d", upto, got, places, err)
		}
	}
	holdsAll(t, h)
}

// textOf is the text of the cells that are live.
func textOf(l []api.Cell) string {
	var all []rune
	for _, c := range l {
		if !c.Gone {
			all = append(all, c.R)
		}
	}
	return string(all)
}

// P17.2: what is collected of a history of several sites: From, Vector, Base, and what stays with its numbers and edits.
func TestUpTo(t *testing.T) {
	h := hists.Sample()
	for _, x := range []struct {
		upto, size, done int
		vector           []int
		places           []api.Span
	}{
		// From 4, Num 12; the numbers 5, 7, 8 and 11; the site 3's two entries are pending.
		{4, 3, 0, []int{1, 1, 5, 0, 2}, list(0, 1, 8, 2, 12, 1)},
		{5, 6, 1, []int{2, 1, 5, 0, 2}, list(0, 1, 8, 2, 12, 1)},
		{6, 6, 1, []int{2, 1, 5, 0, 2}, list(0, 1, 8, 2, 12, 1)},
		{7, 4, 2, []int{2, 2, 5, 0, 2}, list(0, 1, 6, 4, 12, 1)},
		{8, 5, 3, []int{2, 2, 5, 1, 2}, list(0, 1, 6, 4, 12, 1)},
		{10, 5, 3, []int{2, 2, 5, 1, 2}, list(0, 1, 6, 4, 12, 1)},
		{11, 6, 4, []int{3, 2, 5, 1, 2}, list(0, 1, 6, 4, 12, 1)},
		{12, 6, 4, []int{3, 2, 5, 1, 2}, list(0, 1, 6, 4, 12, 1)},
	} {
		got, places, err := collect.Collect(h, x.upto)
		if err != api.OK || got.From != x.upto || got.Num != 12 || !slices.Equal(got.Vector, x.vector) || len(got.Base) != x.size || len(got.List) != 6-x.done || !sameSpans(places, x.places) {
			t.Errorf("up to %d: %v, %v, %d", x.upto, got, places, err)
			continue
		}
		for i, e := range h.List[x.done:] {
			was, now := e.Op, got.List[i].Op
			if got.List[i].Edit != e.Edit || now.Name != was.Name || now.Num != was.Num || now.Kind != was.Kind || now.Text != was.Text {
				t.Errorf("up to %d: %v came to be %v", x.upto, e, got.List[i])
			}
		}
		if slices.ContainsFunc(got.Base, func(c api.Cell) bool { return c.Gone }) {
			t.Errorf("up to %d: %v", x.upto, got.Base)
		}
		collected(t, h, x.upto)
	}
	holdsAll(t, h)
	holdsAll(t, hists.Numbered())
}

// P17.2: of no entry: cells of none, live ones, Gone ones, both.
func TestOfNoEntry(t *testing.T) {
	for size := range 7 {
		for gone := range 1 << size {
			h := abc(size, gone)
			h.From, h.Num = 3, 5
			holdsAll(t, h)
			got, places, _ := collect.Collect(h, 4)
			if want := (hists.GoneOf(h.Base).Places(h.Base)); !sameSpans(places, want) || len(got.Base) != len(docOf(t, h).Text()) || got.From != 4 || got.Num != 5 || !slices.Equal(got.Vector, h.Vector) {
				t.Error(h, got, places)
			}
		}
	}
	for _, h := range []hist.Hist{{}, {Num: 3}, {From: 3, Num: 3}, {From: maxNum, Num: maxNum}, {From: maxNum - 2, Num: maxNum}, {Vector: []int{0, 7}, Num: 1}} {
		holdsAll(t, h)
	}
	for _, upto := range []int{0, 1, 1 << 32, maxNum - 1, maxNum} {
		collected(t, hist.Hist{Base: abc(3, 2).Base, Vector: abc(0, 0).Vector, Num: maxNum}, upto)
	}
}

// deeds are all insertions of a rune, and of two, and all deletions upon a size, of a name.
func deeds(n api.Name, num, size int) []api.Op {
	var l []api.Op
	for at := range size + 1 {
		l = append(l, insertion(n, num, at, "x"), insertion(n, num, at, "y\u20ac"))
	}
	for _, s := range subsets(size) {
		l = append(l, api.Op{Name: n, Num: num, Kind: api.Del, Spans: s})
	}
	return l
}

// P17.2: all histories of up to two entries upon up to three cells, be each live or Gone, and some of three entries: up to each number, such as no entry has too; with numbers, and pending.
func TestSmall(t *testing.T) {
	seen, tried := 0, 0
	var grow func(h hist.Hist, nums []int, size int)
	grow = func(h hist.Hist, nums []int, size int) {
		if tried++; len(h.List) < 2 || tried%37 == 0 {
			holdsAll(t, h)
			seen++
		} else if len(h.List) == 2 {
			for upto := h.From; upto <= h.Num; upto++ {
				collected(t, h, upto)
			}
			seen++
		}
		if len(nums) == 0 {
			return
		}
		k := len(h.List)
		for _, op := range deeds(name(1, k+1), nums[0], size) {
			if k == 2 && (op.Kind == api.Ins && len(op.Text) > 1 || tried%5 > 0) {
				tried++
				continue
			}
			next := h
			next.List = append(slices.Clip(h.List), entry(op))
			grow(next, nums[1:], size+model.Adds(op))
		}
	}
	for size := range 4 {
		for gone := range 1 << size {
			for i, nums := range [][]int{{2, 3}, {2, 4, 5}, {3, 0}, {0, 0}, {2, 3, 0}} {
				if i > 1 && (size+gone)%3 != i%3 {
					continue
				}
				h := abc(size, gone)
				h.From, h.Num = 1, 5
				grow(h, nums, size)
			}
		}
	}
	if seen < 10000 {
		t.Error(seen, tried)
	}
}

// P17.2: histories of any kind, woven or not.
func TestMany(t *testing.T) {
	seen := 0
	for seed := range int64(500) {
		r := rand.New(rand.NewSource(seed))
		h := hists.Randomly(r.Intn)
		holdsAll(t, h)
		for _, n := range huge {
			if _, _, err := holds(t, h, n); err != api.ErrRange {
				t.Fatalf("Collect(%v, %d): %d", brief(h), n, err)
			}
		}
		_, places, _ := collect.Collect(h, h.Num)
		seen += len(places)
	}
	if seen < 500 {
		t.Error(seen)
	}
}

// P17.2: MaxList entries: all with numbers, some pending, all pending.
func TestLong(t *testing.T) {
	for _, pending := range []int{maxList, 300, 1, 0} {
		h := hists.Long(maxList, pending)
		h.Num += 3
		for upto := h.From; upto <= h.Num; upto += 1 + h.Num/9 {
			got := collected(t, h, upto)
			if left := maxList - min(upto, pending); len(got.List) != left {
				t.Errorf("%d pending from on, up to %d: %d entries, not %d", pending, upto, len(got.List), left)
			}
			for more := upto; more <= h.Num; more += 1 + h.Num/5 {
				again, _, _ := collect.Collect(got, more)
				if want, _, err := collect.Collect(h, more); err != api.OK || !sameHist(again, want) {
					t.Errorf("%d pending from on, up to %d, then %d", pending, upto, more)
				}
			}
		}
		collected(t, h, h.Num)
		for _, upto := range []int{-1, h.Num + 1} {
			holds(t, h, upto)
		}
	}
}

// wide is a history upon so many cells, of which every third is Gone; its entries delete and insert here and there.
func wide(n int) hist.Hist {
	h := hists.Wide(n)
	h.Num = 7
	h.List = entries(deletion(name(2, h.Vector[1]+1), 2, 0, 5, 100, 9000, n-3, 3), insertion(name(3, 1), 3, n/2, strings.Repeat("\u20ac", maxText)), deletion(name(3, 2), 5, n/2+50, n/2+100), insertion(name(1, 1), 7, 0, "a"), deletion(name(4, 1), 0, 0, n+201))
	return h
}

// P17.2: as many cells as there may be.
func TestGreatest(t *testing.T) {
	h := wide(maxCells - maxText - 1)
	for upto := range 8 {
		collected(t, h, upto)
	}
	holdsAll(t, hists.Wide(maxCells))
	// All of them Gone, and each other one; what deletes them anew, at once and one by one, gets nothing more to do.
	for _, gone := range [][]api.Span{list(0, maxCells), each(0, maxCells), each(1, maxCells)} {
		h := hists.Wide(maxCells)
		for i := range h.Base {
			h.Base[i].Gone = false
		}
		h.Num, h.List = 3, entries(api.Op{Name: name(1, 1), Num: 1, Kind: api.Del, Spans: gone}, deletion(name(1, 2), 2, 0, maxCells), api.Op{Name: name(1, 3), Num: 3, Kind: api.Del, Spans: gone})
		holdsAll(t, h)
		got, places, err := collect.Collect(h, 1)
		if err != api.OK || !sameSpans(places, gone) || len(got.List) != 2 || len(got.List[1].Op.Spans) != 0 || len(got.List[0].Op.Spans) > 1 {
			t.Error(got.List, len(places), err)
		}
	}
}

// P17.2: MaxList entries that each delete as many cells apart from one another as there may be, among as many that are dropped.
func TestGreatestLong(t *testing.T) {
	h := hists.Wide(maxCells - maxList/2)
	for i := range h.Base {
		h.Base[i].Gone = i%4 == 1
	}
	size, seqs := len(h.Base), [3]int{}
	for i := range maxList {
		if i%2 == 0 {
			seqs[1]++
			h.List = append(h.List, entry(insertion(name(1, seqs[1]), i+1, i*97%size, "x")))
			size++
			continue
		}
		seqs[2]++
		h.List = append(h.List, entry(api.Op{Name: name(2, h.Vector[1]+seqs[2]), Num: i + 1, Kind: api.Del, Spans: each(i%4/2, size)}))
	}
	h.Num = maxList
	for _, upto := range []int{1, 200} {
		collected(t, h, upto)
	}
}

// P17.3: what is collected makes room, for cells and for entries.
func TestRoom(t *testing.T) {
	h := hists.Wide(maxCells)
	more := entry(insertion(name(1, 1), 1, 0, strings.Repeat("x", maxText)))
	if _, err := hist.Add(h, more); err != api.ErrArg {
		t.Error(err)
	}
	if _, err := hist.Add(collected(t, h, 0), more); err != api.OK {
		t.Error(err)
	}
	h = hists.Long(maxList, maxList)
	more = entry(insertion(name(1, hists.CountOf(hists.Reached(h), 1)+1), maxList+1, 0, "x"))
	if _, err := hist.Add(h, more); err != api.ErrHistory {
		t.Error(err)
	}
	if _, err := hist.Add(collected(t, h, 1), more); err != api.OK {
		t.Error(err)
	}
}
