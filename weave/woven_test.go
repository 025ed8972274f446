package weave_test

import (
	"math/rand"
	"slices"
	"strings"
	"testing"

	"foolscap/api"
	"foolscap/cells"
	"foolscap/hist"
	"foolscap/model"
	"foolscap/model/hists"
	"foolscap/weave"
)

// left are the cells that operations leave, carried out by layer 12 upon a document.
func left(t *testing.T, base []api.Cell, l ...api.Op) []api.Cell {
	t.Helper()
	d, err := cells.New(base)
	if err != api.OK {
		t.Fatal(err)
	}
	for i, op := range l {
		if err := d.Do(op); err != api.OK {
			t.Fatalf("%v, %d: %d", shortOps(l), i, err)
		}
	}
	return d.Cells()
}

// writesOn weaves an edit into a history to which alone was added what was woven, checks it against the sheet of it, by what was seen alone, and tells the history with it.
func writesOn(t *testing.T, h hist.Hist, s *hists.Sheet, e api.Edit) hist.Hist {
	t.Helper()
	before := s.Cells()
	known, others, err := weave.Split(h, e)
	if err != api.OK {
		t.Fatalf("Split of %v: %d", e, err)
	}
	if got := left(t, h.Base, slices.Concat(known, others)...); !slices.Equal(got, before) {
		t.Fatalf("Split of %v: what is told leaves %v, not %v", e, got, before)
	}
	context := s.Context(e)
	d, err := weave.Context(h, e)
	if err != api.OK || !slices.Equal(d.Cells(), context) || !slices.Equal(left(t, h.Base, known...), context) {
		t.Fatalf("Context of %v: %v, %d, not %v", e, d.Cells(), err, context)
	}
	want := s.Write(e, h.Num+1)
	x, err := weave.Weave(h, e)
	if err != api.OK || !alike(x.Op, want) {
		t.Fatalf("Weave of %v: %v, %d, not %v", e, x.Op, err, want)
	}
	form, err := weave.Form(h, e)
	if err != api.OK || form.Num != h.Num+1 || len(left(t, context, form)) != len(context)+model.Adds(want) {
		t.Fatalf("Form of %v: %v, %d", e, form, err)
	}
	h, err = hist.Add(h, x)
	if err != api.OK {
		t.Fatalf("Add of %v: %d", x.Op, err)
	}
	if got := left(t, h.Base, hist.Ops(h)...); !slices.Equal(got, s.Cells()) {
		t.Fatalf("%v leaves %v, not %v", e, got, s.Cells())
	}
	return h
}

// few is a history of a and c, and a b between, that is Gone.
func few() hist.Hist {
	return hist.Hist{Base: []api.Cell{cell(16, 1, 0, 'a', false), cell(16, 1, 1, 'b', true), cell(16, 1, 2, 'c', false)}, Vector: append(make([]int, 15), 1)}
}

// asked are all edits of a name and a Context that may be done where so many cells are seen.
func asked(n api.Name, context, live int) []api.Edit {
	var l []api.Edit
	for at := range live + 1 {
		l = append(l, writes(n, context, at, "xy"[:1+n.Site%2]))
		for long := 1; at+long <= live; long++ {
			l = append(l, deletes(n, context, at, long))
		}
	}
	return l
}

// P14.1 to P14.3: all there is to ask for, of three edits upon few cells, of one site or of more, each knowing nothing, some, or all of what was done.
func TestWovenSmall(t *testing.T) {
	seen, all := 0, 0
	for _, sites := range [][3]int{{1, 2, 3}, {1, 2, 1}, {2, 1, 1}, {1, 1, 2}, {3, 2, 1}} {
		var go3 func(h hist.Hist, done []api.Edit)
		go3 = func(h hist.Hist, done []api.Edit) {
			k := len(done)
			if k == len(sites) {
				return
			}
			least, seq := 0, 1
			for _, e := range done {
				if e.Name.Site == sites[k] {
					least, seq = max(least, e.Context), seq+1
				}
			}
			for context := least; context <= k; context++ {
				n := name(sites[k], seq)
				for _, e := range asked(n, context, sheet(done).Live(api.Edit{Name: n, Context: context})) {
					if all++; k == 2 && all%3 > 0 {
						continue
					}
					next := writesOn(t, h, sheet(done), e)
					if k == 2 {
						holds(t, h, e)
					}
					seen++
					go3(next, append(slices.Clone(done), e))
				}
			}
		}
		go3(few(), nil)
	}
	if seen < 3000 {
		t.Error(seen, all)
	}
}

// sheet is that of few, with edits done to it.
func sheet(l []api.Edit) *hists.Sheet {
	s := hists.NewSheet(few().Base)
	for i, e := range l {
		s.Write(e, i+1)
	}
	return s
}

// randomBase makes cells, live ones and Gone ones, each of a name of its own.
func randomBase(r *rand.Rand) hist.Hist {
	var h hist.Hist
	for k := range r.Intn(12) {
		h.Base = append(h.Base, cell(maxSites, k+1, r.Intn(maxText), 'a'+rune(k), r.Intn(3) == 0))
	}
	if len(h.Base) > 0 {
		h.Vector = append(make([]int, maxSites-1), len(h.Base))
	}
	h.From = r.Intn(5)
	h.Num = h.From + r.Intn(3)
	return h
}

// randomEdit makes the next edit of a site, that may be done where so many cells are seen; mostly near what was asked for before.
func randomEdit(r *rand.Rand, n api.Name, context, live, near int) api.Edit {
	at := r.Intn(live + 1)
	if near >= 0 && r.Intn(2) == 0 {
		at = min(max(near+r.Intn(3)-1, 0), live)
	}
	if at == live || r.Intn(5) < 3 {
		return writes(n, context, at, strings.Repeat("w\u00e9\u20ac\U0001f642", 3)[:[]int{1, 3, 10}[r.Intn(3)]])
	}
	return deletes(n, context, at, 1+r.Intn(min(live-at, 1+r.Intn(9))))
}

// P14.3: worlds of some sites that write at once, each as far behind as it likes, but never less far than before.
func TestWovenMany(t *testing.T) {
	for seed := range int64(150) {
		r := rand.New(rand.NewSource(seed))
		h := randomBase(r)
		s := hists.NewSheet(h.Base)
		sites := 1 + r.Intn(5)
		seqs, contexts, near := make([]int, sites+1), make([]int, sites+1), -1
		for i := range contexts {
			contexts[i] = h.From
		}
		lazy := 1 + r.Intn(6)
		for range 10 + r.Intn(30) {
			site := 1 + r.Intn(sites)
			if r.Intn(lazy) == 0 {
				contexts[site] += r.Intn(h.Num - contexts[site] + 1)
			}
			seqs[site]++
			n := name(site, seqs[site])
			e := randomEdit(r, n, contexts[site], s.Live(api.Edit{Name: n, Context: contexts[site]}), near)
			near = e.At
			h = writesOn(t, h, s, e)
			for r.Intn(8) == 0 {
				h, _ = hist.Pass(h)
			}
		}
		// And what all the sites may ask for behind that, such as fits or not.
		for range 6 {
			site := 1 + r.Intn(sites)
			n := name(site, seqs[site]+1)
			holds(t, h, randomEdit(r, n, contexts[site]+r.Intn(h.Num-contexts[site]+1), 9, near))
			holds(t, h, randomEdit(r, n, r.Intn(h.Num+2), 3, near))
		}
	}
}

// P14.3: right behind and right ahead of what others inserted, at the beginning, in the middle, at the end: what is known of goes where it was put, what isn't behind it.
func TestWovenAtOnePlace(t *testing.T) {
	for _, x := range []struct {
		edits []api.Edit
		want  string
	}{
		// None knows of any: by numbers, one behind the other.
		{[]api.Edit{writes(name(3, 1), 0, 0, "x"), writes(name(2, 1), 0, 0, "y"), writes(name(1, 1), 0, 0, "z")}, "xyzabc"},
		{[]api.Edit{writes(name(3, 1), 0, 3, "x"), writes(name(2, 1), 0, 3, "y"), writes(name(1, 1), 0, 3, "z")}, "abcxyz"},
		{[]api.Edit{writes(name(1, 1), 0, 1, "x"), writes(name(2, 1), 0, 1, "y"), writes(name(3, 1), 0, 1, "z")}, "axyzbc"},
		// One site, that knows its own.
		{[]api.Edit{writes(name(1, 1), 0, 1, "x"), writes(name(2, 1), 0, 1, "y"), writes(name(1, 2), 0, 1, "z"), writes(name(1, 3), 0, 2, "v"), writes(name(1, 4), 0, 4, "w")}, "azvxywbc"},
		{[]api.Edit{writes(name(2, 1), 0, 1, "y"), writes(name(1, 1), 0, 1, "x"), writes(name(1, 2), 0, 1, "z"), writes(name(1, 3), 0, 2, "v"), writes(name(1, 4), 0, 4, "w")}, "ayzvxwbc"},
		// Some, all.
		{[]api.Edit{writes(name(1, 1), 0, 1, "x"), writes(name(2, 1), 0, 1, "y"), writes(name(3, 1), 1, 1, "p"), writes(name(4, 1), 1, 2, "q"), writes(name(5, 1), 2, 2, "r"), writes(name(5, 2), 2, 4, "s")}, "apxryqsbc"},
		// Deleted meanwhile: wholly, in part; behind that, ahead of it, within.
		{[]api.Edit{deletes(name(1, 1), 0, 0, 3), writes(name(2, 1), 0, 1, "x"), writes(name(3, 1), 0, 3, "y"), deletes(name(4, 1), 0, 1, 2), writes(name(4, 2), 4, 1, "z")}, "xzy"},
		{[]api.Edit{deletes(name(1, 1), 0, 0, 2), deletes(name(2, 1), 0, 1, 2), writes(name(3, 1), 0, 1, "x")}, "x"},
		{[]api.Edit{deletes(name(1, 1), 0, 1, 1), writes(name(2, 1), 1, 1, "x"), writes(name(3, 1), 0, 1, "y"), writes(name(4, 1), 0, 2, "z")}, "ayxzc"},
		// Across what was inserted meanwhile.
		{[]api.Edit{writes(name(1, 1), 0, 1, "x"), writes(name(1, 2), 0, 3, "y"), deletes(name(2, 1), 0, 0, 3), deletes(name(3, 1), 1, 0, 4)}, "y"},
	} {
		h := abc()
		s := hists.NewSheet(h.Base)
		for _, e := range x.edits {
			holds(t, h, e)
			h = writesOn(t, h, s, e)
		}
		if got := textOf(t, h); got != x.want {
			t.Errorf("%v: %q, not %q", x.edits, got, x.want)
		}
	}
}

// P14.1, P14.2: histories of any kind, woven or not: most entries hang on others.
func TestMany(t *testing.T) {
	errs := map[api.Errno]int{}
	for seed := range int64(600) {
		r := rand.New(rand.NewSource(seed))
		h := hists.Randomly(r.Intn)
		if r.Intn(9) > 0 {
			h = hists.Cut(h)
		}
		for i := range h.List {
			h.List[i].Edit.Context = []int{0, h.From, h.List[i].Op.Num - 1}[r.Intn(3)] * r.Intn(2)
		}
		for range 12 {
			_, err := holds(t, h, anyEdit(r, h))
			errs[err]++
		}
	}
	for err, least := range map[api.Errno]int{api.OK: 4000, api.ErrArg: 100, api.ErrRange: 200, api.ErrState: 150, api.ErrOrder: 500, api.ErrLost: 150} {
		if errs[err] < least {
			t.Error(errs)
		}
	}
}

// anyEdit makes an edit that mostly fits.
func anyEdit(r *rand.Rand, h hist.Hist) api.Edit {
	site := 1 + r.Intn(maxSites)
	if len(h.List) > 0 && r.Intn(4) > 0 {
		site = h.List[r.Intn(len(h.List))].Op.Name.Site
	}
	n := name(site, hists.CountOf(hists.Reached(h), site)+1)
	context := h.From + r.Intn(h.Num-h.From+1)
	live := len(left(&testing.T{}, h.Base, hists.OpsOf(h.List)...))
	e := randomEdit(r, n, context, min(live, 1+r.Intn(40)), -1)
	if r.Intn(8) == 0 {
		spoilt := []*int{&e.Name.Site, &e.Name.Seq, &e.Context, &e.Kind, &e.At, &e.Len}[r.Intn(6)]
		*spoilt += []int{1, -1, 2, 9, huge[r.Intn(len(huge))]}[r.Intn(5)]
	}
	return e
}

// wide is a history of so many cells, each 200 of one name; every third of them is Gone.
func wide(n int) hist.Hist {
	return hists.Wide(n)
}

// P14.2: an insertion by which the document would be too long: already upon its context, or not before it is behind the others.
func TestFull(t *testing.T) {
	h := wide(maxCells - 10)
	h = woven(t, h, writes(name(1, 1), 0, 7, "12345"), deletes(name(3, 1), 0, 0, 100), writes(name(1, 2), 2, 0, "67"))
	for _, x := range []struct {
		site, context int
		room, in      int // of the document behind all, and of the context
	}{
		{1, 2, 3, 3}, {1, 3, 3, 3}, {4, 0, 3, 10}, {4, 1, 3, 5}, {4, 2, 3, 5}, {4, 3, 3, 3}, {3, 0, 3, 10}, {3, 1, 3, 5},
	} {
		n := name(x.site, hists.CountOf(hists.Reached(h), x.site)+1)
		for _, long := range []int{x.room, x.room + 1, x.in, x.in + 1} {
			want := api.OK
			if long > x.in {
				want = api.ErrArg
			} else if long > x.room {
				want = api.ErrFull
			}
			e := writes(n, x.context, 40*x.site, strings.Repeat("\u20ac", long))
			if _, err := holds(t, h, e); err != want {
				t.Errorf("%d of %v: %d, not %d", long, n, err, want)
			}
			e.At = maxCells
			if _, err := weave.Weave(h, e); err != api.ErrRange {
				t.Errorf("%d of %v, out of range: %d", long, n, err)
			}
			if op, err := weave.Form(h, writes(n, x.context, 40, e.Text)); (err == api.OK) != (long <= x.in) || err == api.OK && op.At < 40 {
				t.Errorf("%d of %v: Form: %d", long, n, err)
			}
		}
		if _, err := holds(t, h, deletes(n, x.context, 9, 900)); err != api.OK {
			t.Error(err)
		}
	}
	// As many as there may be: nothing more, but of what is there.
	h = wide(maxCells)
	if _, err := holds(t, h, writes(name(1, 1), 0, 0, "x")); err != api.ErrArg {
		t.Error(err)
	}
	live := maxCells - maxCells/3
	if x, err := holds(t, h, deletes(name(1, 1), 0, 0, live)); err != api.OK || len(x.Op.Spans) != live/2 {
		t.Error(err, len(x.Op.Spans))
	}
	if _, err := holds(t, h, deletes(name(1, 1), 0, 1, live)); err != api.ErrRange {
		t.Error(err)
	}
}

// P14.1 to P14.3: MaxList entries, of which an edit knows all, none, the later ones alone, or some here and there.
func TestLong(t *testing.T) {
	h := abc()
	s := hists.NewSheet(h.Base)
	r := rand.New(rand.NewSource(7))
	seqs := make([]int, 6)
	near := -1
	for i := range maxList {
		// The sites 1 and 2 take turns, and neither ever knows of the other; the site 3 comes later, and knows all there is.
		site, context := 1+i%2, 0
		if i > 250 && i%5 == 0 {
			site, context = 3, i
		}
		seqs[site]++
		n := name(site, seqs[site])
		e := randomEdit(r, n, context, s.Live(api.Edit{Name: n, Context: context}), near)
		near = e.At
		want := s.Write(e, h.Num+1)
		x, err := weave.Weave(h, e)
		if err != api.OK || !alike(x.Op, want) {
			t.Fatalf("%d: Weave of %v: %v, %d, not %v", i, e, x.Op, err, want)
		}
		if h, err = hist.Add(h, x); err != api.OK {
			t.Fatal(i, err)
		}
	}
	if got := left(t, h.Base, hist.Ops(h)...); !slices.Equal(got, s.Cells()) {
		t.Fatal("another document")
	}
	for _, x := range []struct{ site, context, known int }{
		{1, 0, seqs[1]}, {2, 0, seqs[2]}, {2, 200, 100 + seqs[2]}, {4, 0, 0}, {4, maxList, maxList}, {4, maxList - 1, maxList - 1}, {4, 1, 1}, {3, maxList, maxList},
	} {
		n := name(x.site, seqs[x.site]+1)
		for _, e := range []api.Edit{writes(n, x.context, 1, "w"), deletes(n, x.context, 0, 2)} {
			known, others, err := weave.Split(h, e)
			if err != api.OK || len(known) != x.known || len(known)+len(others) != maxList {
				t.Fatalf("Split of %v: %d, %d, %d", e, len(known), len(others), err)
			}
			got, err := weave.Weave(h, e)
			if err != api.OK || !alike(got.Op, later(t, h, e)) {
				t.Fatalf("Weave of %v: %v, %d", e, got.Op, err)
			}
			if e.Kind == api.Ins && (x.context == 200 || x.known == 0) {
				holds(t, h, e)
			}
		}
	}
}

// later tells what an edit comes to be, by what is seen alone, behind a history to which alone was added what was woven.
func later(t *testing.T, h hist.Hist, e api.Edit) api.Op {
	t.Helper()
	s := hists.NewSheet(h.Base)
	for _, x := range h.List {
		if got := s.Write(x.Edit, x.Op.Num); !alike(got, x.Op) {
			t.Fatalf("%v, not %v", x.Op, got)
		}
	}
	return s.Write(e, h.Num+1)
}
