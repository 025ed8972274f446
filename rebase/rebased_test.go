package rebase_test

import (
	"math/rand"
	"slices"
	"strings"
	"testing"

	"foolscap/api"
	"foolscap/hist"
	"foolscap/model"
	"foolscap/model/hists"
	"foolscap/rebase"
	"foolscap/weave"
)

// stamped is an edit with its number.
type stamped struct {
	api.Edit
	num int
}

// plainly tells what a site's history is, and its document, played upon named cells: all up to a number first, then what is pending, each by what was seen when it was asked for alone.
func plainly(base hist.Hist, log []stamped, num int, wait []api.Edit) (hist.Hist, []api.Cell) {
	s := hists.NewSheet(base.Base)
	h := clone(base)
	h.Num = num
	for _, x := range log {
		if x.num <= num {
			h.List = append(h.List, api.Entry{Op: s.Write(x.Edit, x.num), Edit: x.Edit})
		}
	}
	for k, e := range wait {
		op := s.Write(e, maxNum+1+k)
		op.Num = 0
		h.List = append(h.List, api.Entry{Op: op, Edit: e})
	}
	return h, s.Cells()
}

// placed tells at which places of a document named cells stand.
func placed(l, doc []api.Cell) []api.Span {
	var spans []api.Span
	for p, c := range doc {
		if slices.ContainsFunc(l, func(d api.Cell) bool { return model.AlikeNames(c.Name, d.Name) && c.Off == d.Off }) {
			spans = model.With(spans, p)
		}
	}
	return spans
}

// world is what has a number, behind a history.
type world struct {
	base hist.Hist
	log  []stamped
	num  int
}

// site is one that writes ahead of the numbers; of what is pending some have numbers already that it hasn't taken in.
type site struct {
	site  int
	h     hist.Hist
	wait  []api.Edit
	asked int
}

// next is the name of a site's next edit.
func (s site) next() api.Name {
	return name(s.site, hists.CountOf(hists.Reached(s.h), s.site)+1)
}

// live tells how many cells a site sees.
func (w world) live(s site) int {
	_, doc := plainly(w.base, w.log, s.h.Num, s.wait)
	return len(slices.DeleteFunc(doc, func(c api.Cell) bool { return c.Gone }))
}

// does tells the site behind an own edit, checked against named cells.
func (w world) does(t *testing.T, s site, e api.Edit) site {
	t.Helper()
	_, before := plainly(w.base, w.log, s.h.Num, s.wait)
	wait := append(slices.Clone(s.wait), e)
	want, after := plainly(w.base, w.log, s.h.Num, wait)
	next, op, err := rebase.Local(s.h, e)
	if err != api.OK || !hists.Same(next, want) || !alike(op, want.List[len(want.List)-1].Op) || !slices.Equal(play(before, op), after) {
		t.Fatalf("Local(%v, %v): %v, %v, %d, not %v", s.h, e, next, op, err, want)
	}
	return site{s.site, next, wait, s.asked}
}

// numbers tells the world with the next number for an edit.
func (w world) numbers(e api.Edit) world {
	w.log = append(slices.Clip(w.log), stamped{e, w.num + 1})
	w.num++
	return w
}

// asks tells the world with the next number for a site's first pending edit that has none.
func (w world) asks(s site) (world, site) {
	s.asked++
	return w.numbers(s.wait[s.asked-1]), s
}

// takes tells the site behind the next number, checked against named cells.
func (w world) takes(t *testing.T, s site) site {
	t.Helper()
	num := s.h.Num + 1
	i := slices.IndexFunc(w.log, func(x stamped) bool { return x.num == num })
	if i < 0 { // it was passed
		s.h, _ = hist.Pass(s.h)
		return s
	}
	e := w.log[i].Edit
	_, numbered := plainly(w.base, w.log, num-1, nil)
	_, before := plainly(w.base, w.log, num-1, s.wait)
	next, op, own, err := rebase.Take(s.h, e)
	s.h = next
	if isOwn := e.Name.Site == s.site; own != isOwn {
		t.Fatalf("Take(%v, %v): own: %t", s.h, e, own)
	} else if isOwn {
		s.wait, s.asked = s.wait[1:], s.asked-1
	}
	want, after := plainly(w.base, w.log, num, s.wait)
	if err != api.OK || !hists.Same(next, want) {
		t.Fatalf("Take(%v, %v): %v, %d, not %v", s.h, e, next, err, want)
	}
	if own {
		if !alike(op, api.Op{}) || !slices.Equal(before, after) {
			t.Fatalf("Take(%v, %v): its own edit again: %v", s.h, e, op)
		}
		return s
	}
	carried := want.List[len(want.List)-len(s.wait)-1].Op
	if e.Kind == api.Del {
		carried.Spans = placed(cellsAt(numbered, carried.Spans), before)
	} else {
		carried.At = op.At // the documents tell whether it is the place
	}
	if !alike(op, carried) || !slices.Equal(play(before, op), after) {
		t.Fatalf("Take(%v, %v): %v, not %v", s.h, e, op, carried)
	}
	return s
}

// cellsAt are the cells at places.
func cellsAt(doc []api.Cell, spans []api.Span) []api.Cell {
	var l []api.Cell
	for p := range model.Places(spans) {
		l = append(l, doc[p])
	}
	return l
}

// relayed tells the history that has all by its numbers alone: each woven behind those ahead of it.
func (w world) relayed(t *testing.T) hist.Hist {
	t.Helper()
	h := clone(w.base)
	for _, x := range w.log {
		for h.Num < x.num-1 {
			h, _ = hist.Pass(h)
		}
		woven, err := weave.Weave(h, x.Edit)
		if err != api.OK {
			t.Fatal(x, err)
		}
		h, err = hist.Add(h, woven)
		if err != api.OK {
			t.Fatal(x, err)
		}
	}
	for h.Num < w.num {
		h, _ = hist.Pass(h)
	}
	return h
}

// few is a history of a and c, and a b between, that is Gone.
func few() hist.Hist {
	return hist.Hist{Base: []api.Cell{cell(16, 1, 0, 'a', false), cell(16, 1, 1, 'b', true), cell(16, 1, 2, 'c', false)}, Vector: append(make([]int, 15), 1)}
}

// allAsked are all edits of a name and a Context that may be done where so many cells are seen.
func allAsked(n api.Name, context, live int) []api.Edit {
	var l []api.Edit
	for at := range live + 1 {
		l = append(l, writes(n, context, at, "xy"[:1+n.Site%2]))
		for long := 1; at+long <= live; long++ {
			l = append(l, deletes(n, context, at, long))
		}
	}
	return l
}

// small goes along what a site may do of its own, and what others may, in all orders in which it comes to be asked for, numbered, and taken in.
type small struct {
	t            *testing.T
	own, others  int // how many edits of each there are at most
	every        int // of the third ones
	tried, ended int
}

// picks tells whether one more edit is tried, behind so many.
func (g *small) picks(done int) bool {
	g.tried++
	return done < 2 || g.tried%g.every == 0
}

// along goes along all from here; others are the edits that aren't the site's own.
func (g *small) along(w world, s site, others []api.Edit) {
	own := s.next().Seq - 1
	moved := false
	if own < g.own {
		moved = true
		for _, e := range allAsked(s.next(), s.h.Num, w.live(s)) {
			if g.picks(own + len(others)) {
				g.along(w, w.does(g.t, s, e), others)
			}
		}
	}
	if len(others) < g.others {
		moved = true
		least := 0
		if len(others) > 0 {
			least = others[len(others)-1].Context
		}
		for context := least; context <= w.num; context++ {
			n := name(2, len(others)+1)
			for _, e := range allAsked(n, context, w.seen(n, context)) {
				if g.picks(own + len(others)) {
					g.along(w.numbers(e), s, append(slices.Clip(others), e))
				}
			}
		}
	}
	if s.asked < len(s.wait) {
		moved = true
		next, asked := w.asks(s)
		g.along(next, asked, others)
	}
	if s.h.Num < w.num {
		moved = true
		g.along(w, w.takes(g.t, s), others)
	}
	if !moved {
		g.ended++
		if got := w.relayed(g.t); !hists.Same(got, s.h) {
			g.t.Fatalf("%v, not %v", s.h, got)
		}
	}
}

// seen tells how many cells are seen in the context of an edit to come.
func (w world) seen(n api.Name, context int) int {
	s := hists.NewSheet(w.base.Base)
	for _, x := range w.log {
		s.Write(x.Edit, x.num)
	}
	return s.Live(api.Edit{Name: n, Context: context})
}

// P15.1 to P15.4: all there is to ask for, of three edits upon few cells, own ones and others', in all orders.
func TestSmall(t *testing.T) {
	for _, x := range []struct{ own, others, every, least int }{{1, 1, 1, 300}, {2, 1, 5, 4000}, {1, 2, 5, 4000}} {
		g := small{t: t, own: x.own, others: x.others, every: x.every}
		w := world{base: few()}
		g.along(w, site{site: 1, h: few()}, nil)
		if g.ended < x.least {
			t.Error(g.tried, g.ended)
		}
	}
}

// randomWorld makes cells, live ones and Gone ones, each of a name of its own, and sites that have done something before.
func randomWorld(r *rand.Rand) world {
	var h hist.Hist
	for k := range r.Intn(12) {
		h.Base = append(h.Base, cell(maxSites, k+1, r.Intn(maxText), 'a'+rune(k), r.Intn(3) == 0))
	}
	if len(h.Base) > 0 {
		h.Vector = append(make([]int, maxSites-1), len(h.Base))
		h.Vector[r.Intn(5)] = r.Intn(4)
	}
	h.From = r.Intn(5)
	h.Num = h.From + r.Intn(3)
	return world{base: h, num: h.Num}
}

// randomEdit makes an edit, that may be done where so many cells are seen; mostly near what was asked for before.
func randomEdit(r *rand.Rand, n api.Name, context, live, near int) api.Edit {
	at := r.Intn(live + 1)
	if near >= 0 && r.Intn(2) == 0 {
		at = min(max(near+r.Intn(3)-1, 0), live)
	}
	if at == live || r.Intn(5) < 3 {
		return writes(n, context, at, strings.Repeat("w\u00e9\u20ac\U0001f642", 3)[:[]int{1, 3, 10}[r.Intn(3)]])
	}
	return deletes(n, context, at, 1+r.Intn(min(live-at, 1+r.Intn(9))))
}

// P15.4: worlds of some sites that write at once, each as far ahead of the numbers as it likes, and as far behind; one writes nothing.
func TestWorlds(t *testing.T) {
	most := 0
	for seed := range int64(120) {
		r := rand.New(rand.NewSource(seed))
		w := randomWorld(r)
		sites := make([]site, 2+r.Intn(4))
		for i := range sites {
			sites[i] = site{site: i + 1, h: w.base}
		}
		near := -1
		hasty, lazy := 1+r.Intn(4), 1+r.Intn(6)
		for range 40 + r.Intn(80) {
			i := r.Intn(len(sites))
			s := &sites[i]
			switch {
			case i > 0 && r.Intn(3) == 0 && len(w.log) < 40:
				e := randomEdit(r, s.next(), s.h.Num, w.live(*s), near)
				near = e.At
				*s = w.does(t, *s, e)
				most = max(most, len(s.wait))
			case s.asked < len(s.wait) && r.Intn(hasty) == 0:
				w, *s = w.asks(*s)
			case s.h.Num < w.num && r.Intn(lazy) == 0:
				*s = w.takes(t, *s)
			case r.Intn(20) == 0:
				w.num++
			}
		}
		for i := range sites {
			for sites[i].asked < len(sites[i].wait) {
				w, sites[i] = w.asks(sites[i])
			}
		}
		want := w.relayed(t)
		for _, s := range sites {
			for s.h.Num < w.num {
				s = w.takes(t, s)
			}
			if !hists.Same(s.h, want) {
				t.Fatalf("%d: the site %d: %v, not %v", seed, s.site, brief(s.h), brief(want))
			}
		}
	}
	if most < 8 {
		t.Error("so few were pending at once:", most)
	}
}

// P15.4: at one place: own edits and others', right ahead of one another and right behind, come to stand the same whoever comes first.
func TestAtOnePlace(t *testing.T) {
	one, two, three := name(1, 1), name(1, 2), name(2, 1)
	for _, x := range []struct {
		own    []api.Edit
		others []api.Edit
		texts  []string // with so many of others' numbered ahead of the own ones
	}{
		{[]api.Edit{writes(one, 0, 1, "x")}, []api.Edit{writes(three, 0, 1, "y")}, []string{"axybc", "ayxbc"}},
		{[]api.Edit{writes(one, 0, 1, "x"), writes(two, 0, 2, "z")}, []api.Edit{writes(three, 0, 1, "y")}, []string{"axzybc", "ayxzbc"}},
		{[]api.Edit{writes(one, 0, 1, "x"), writes(two, 0, 1, "z")}, []api.Edit{writes(three, 0, 1, "y"), writes(name(3, 1), 0, 1, "v")}, []string{"azxyvbc", "ayzxvbc", "ayvzxbc"}},
		{[]api.Edit{deletes(one, 0, 0, 3), writes(two, 0, 0, "x")}, []api.Edit{writes(three, 0, 0, "y"), writes(name(3, 1), 0, 3, "v")}, []string{"yxv", "yxv", "yvx"}},
		{[]api.Edit{deletes(one, 0, 0, 3), writes(two, 0, 0, "x")}, []api.Edit{writes(three, 0, 3, "y")}, []string{"xy", "yx"}},
	} {
		for ahead := range len(x.others) + 1 {
			w := world{base: abc()}
			s := site{site: 1, h: abc()}
			for _, e := range x.own {
				s = w.does(t, s, e)
			}
			for _, e := range x.others[:ahead] {
				w = w.numbers(e)
			}
			for range x.own {
				w, s = w.asks(s)
			}
			for _, e := range x.others[ahead:] {
				w = w.numbers(e)
			}
			for s.h.Num < w.num {
				s = w.takes(t, s)
			}
			if got := textOf(t, s.h); got != x.texts[ahead] {
				t.Errorf("%v, behind %d of %v: %q, not %q", x.own, ahead, x.others, got, x.texts[ahead])
			}
		}
	}
}

// P15.4: as many entries as there may be: of what is pending a hundred and more, through which others' come.
func TestManyPending(t *testing.T) {
	r := rand.New(rand.NewSource(5))
	w := world{base: abc()}
	s, other := site{site: 1, h: abc()}, hists.NewSheet(abc().Base)
	near := -1
	_, doc := plainly(w.base, nil, 0, nil)
	for k := range 150 {
		live := len(slices.DeleteFunc(slices.Clone(doc), func(c api.Cell) bool { return c.Gone }))
		e := randomEdit(r, name(1, k+1), 0, live, near)
		near = e.At
		next, op, err := rebase.Local(s.h, e)
		if err != api.OK {
			t.Fatal(k, err)
		}
		doc = play(doc, op)
		s = site{1, next, append(s.wait, e), 0}
	}
	for k := range maxList - 150 {
		n := name(2+k%3, k/3+1)
		e := randomEdit(r, n, 0, other.Live(api.Edit{Name: n}), near)
		near = e.At
		w = w.numbers(e)
		other.Write(e, w.num)
		next, op, own, err := rebase.Take(s.h, e)
		if err != api.OK || own {
			t.Fatal(k, own, err)
		}
		doc = play(doc, op)
		s.h = next
	}
	want, cells := plainly(w.base, w.log, w.num, s.wait)
	if !hists.Same(s.h, want) || !slices.Equal(doc, cells) {
		t.Fatal("another history")
	}
	if _, _, err := rebase.Local(s.h, writes(name(1, 151), w.num, 0, "w")); err != api.ErrHistory {
		t.Error(err)
	}
	for range s.wait {
		e := s.wait[s.asked]
		w, s = w.asks(s)
		next, op, own, err := rebase.Take(s.h, e)
		if err != api.OK || !own || !alike(op, api.Op{}) {
			t.Fatal(e, op, own, err)
		}
		s.h = next
	}
	want, cells = plainly(w.base, w.log, w.num, nil)
	if !hists.Same(s.h, want) || !slices.Equal(doc, cells) {
		t.Fatal("another history")
	}
}

// P15.1 to P15.3: histories of any kind, woven or not: what is pending hangs on what it likes.
func TestMany(t *testing.T) {
	var errs [3]map[api.Errno]int
	for i := range errs {
		errs[i] = map[api.Errno]int{}
	}
	for seed := range int64(400) {
		r := rand.New(rand.NewSource(seed))
		h := hists.Randomly(r.Intn)
		for i := range h.List {
			h.List[i].Edit.Context = []int{0, h.From, max(h.List[i].Op.Num-1, 0)}[r.Intn(3)] * r.Intn(2)
		}
		for range 12 {
			for i, err := range holds(t, h, anyEdit(r, h)) {
				errs[i][err]++
			}
		}
	}
	for i, least := range []map[api.Errno]int{
		{api.OK: 1000, api.ErrArg: 200, api.ErrRange: 100, api.ErrOrder: 1000},
		{api.OK: 1300, api.ErrArg: 200, api.ErrRange: 100, api.ErrOrder: 300, api.ErrTwice: 300, api.ErrLost: 30},
		{api.OK: 1300, api.ErrArg: 200, api.ErrRange: 100, api.ErrOrder: 300, api.ErrTwice: 250, api.ErrLost: 30},
	} {
		for err, n := range least {
			if errs[i][err] < n {
				t.Error(i, err, errs[i])
			}
		}
	}
}

// anyEdit makes an edit that mostly goes on from a history, or from what has a number there.
func anyEdit(r *rand.Rand, h hist.Hist) api.Edit {
	site := 1 + r.Intn(maxSites)
	if len(h.List) > 0 && r.Intn(4) > 0 {
		site = h.List[len(h.List)-1-r.Intn(len(h.List))*r.Intn(2)].Op.Name.Site
	}
	if r.Intn(12) == 0 && len(h.List) > 0 {
		return h.List[len(h.List)-1-r.Intn(min(3, len(h.List)))].Edit
	}
	n := name(site, hists.CountOf(hists.Reached([]hist.Hist{h, hists.Cut(h)}[r.Intn(2)]), site)+1)
	context := []int{h.Num, h.From + r.Intn(h.Num-h.From+1)}[r.Intn(2)]
	e := randomEdit(r, n, context, min(len(cellsOf(h)), 1+r.Intn(40)), -1)
	if r.Intn(8) == 0 {
		spoilt := []*int{&e.Name.Site, &e.Name.Seq, &e.Context, &e.Kind, &e.At, &e.Len}[r.Intn(6)]
		*spoilt += []int{1, -1, 2, 9, huge[r.Intn(len(huge))]}[r.Intn(5)]
	}
	return e
}
