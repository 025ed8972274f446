package collect_test

import (
	"math/rand"
	"slices"
	"strings"
	"testing"

	"foolscap/api"
	"foolscap/collect"
	"foolscap/hist"
	"foolscap/model/hists"
	"foolscap/weave"
)

// writes makes an edit that inserts.
func writes(n api.Name, context, at int, text string) api.Edit {
	return api.Edit{Name: n, Context: context, Kind: api.Ins, At: at, Text: text}
}

// deletes makes an edit that deletes.
func deletes(n api.Name, context, at, long int) api.Edit {
	return api.Edit{Name: n, Context: context, Kind: api.Del, At: at, Len: long}
}

// answers are all that layer 14 tells of an edit in a history: the others, as transposed, what the edit is upon its context, and woven; which cells the context has, and the errors.
type answers struct {
	others []api.Op
	form   api.Op
	entry  api.Entry
	cells  []api.Cell
	text   string
	errs   [4]api.Errno
}

// ask asks all of an edit in a history.
func ask(h hist.Hist, e api.Edit) answers {
	var a answers
	_, a.others, a.errs[0] = weave.Split(h, e)
	context, err := weave.Context(h, e)
	a.cells, a.text, a.errs[1] = context.Cells(), context.Text(), err
	a.form, a.errs[2] = weave.Form(h, e)
	a.entry, a.errs[3] = weave.Weave(h, e)
	return a
}

// both checks that an edit is answered alike in a history, and in that collected up to a number: with the same errors; upon contexts of the same text; so that it comes to stand between the same cells, and to delete the same ones, by their names. It tells both histories with it; as they were, if it isn't woven.
func both(t *testing.T, h, less hist.Hist, e api.Edit) (hist.Hist, hist.Hist, api.Errno) {
	t.Helper()
	a, b := ask(h, e), ask(less, e)
	if a.errs != b.errs {
		t.Fatalf("%v: %d of %v,\n%d of it, collected: %v", e, a.errs, brief(h), b.errs, brief(less))
	}
	_, _, dropped, err := hists.Collect(h, less.From)
	if err != api.OK {
		t.Fatal(err)
	}
	if a.text != b.text || !slices.Equal(dropped.Without(a.cells), b.cells) {
		t.Fatalf("%v: the context %q, %q of what is collected", e, a.text, b.text)
	}
	if a.errs[3] != api.OK {
		return h, less, a.errs[3]
	}
	if want := dropped.Op(a.form, a.cells); !alike(b.form, want) || len(a.others) != len(b.others) {
		t.Fatalf("Form of %v: %v, not %v, of what is collected", e, b.form, want)
	}
	whole := docOf(t, h).Cells()
	if want := dropped.Op(a.entry.Op, whole); !alike(b.entry.Op, want) || b.entry.Edit != e {
		t.Fatalf("Weave of %v: %v, not %v, of what is collected", e, b.entry, want)
	}
	h, less = added(t, h, a.entry), added(t, less, b.entry)
	if got, want := docOf(t, less), docOf(t, h); got.Text() != want.Text() || !slices.Equal(got.Cells(), dropped.Without(want.Cells())) {
		t.Fatalf("%v: %q of what is collected, not %q", e, got.Text(), want.Text())
	}
	if want, _, err := collect.Collect(h, less.From); err != api.OK || !sameHist(less, want) {
		t.Fatalf("%v: woven into what is collected:\n%v, not\n%v, %d", e, brief(less), brief(want), err)
	}
	return h, less, api.OK
}

// added tells a history with an entry that may be added.
func added(t *testing.T, h hist.Hist, e api.Entry) hist.Hist {
	t.Helper()
	next, err := hist.Add(h, e)
	if err != api.OK {
		t.Fatalf("Add(%v, %v): %d", brief(h), e, err)
	}
	return next
}

// passed tells a history with a number more.
func passed(t *testing.T, h hist.Hist) hist.Hist {
	t.Helper()
	next, err := hist.Pass(h)
	if err != api.OK {
		t.Fatal(err)
	}
	return next
}

// allowed are the numbers up to which a history may be collected such that the chapter promises that it goes on as it would have.
func allowed(h hist.Hist) []int {
	var l []int
	for upto := h.From; upto <= h.Num; upto++ {
		if hists.Allowed(h, upto) {
			l = append(l, upto)
		}
	}
	return l
}

// nextOf is the next name of a site in a history.
func nextOf(h hist.Hist, site int) api.Name {
	return name(site, hists.CountOf(hists.Reached(h), site)+1)
}

// P17.3: an example by hand: what others deleted is dropped, and what is inserted around it stands where it would have.
func TestWovenIntoBoth(t *testing.T) {
	h := abc(5, 0)
	for _, e := range []api.Edit{deletes(name(1, 1), 0, 1, 3), writes(name(2, 1), 0, 2, "xy"), deletes(name(3, 1), 2, 1, 1), writes(name(1, 2), 2, 3, "z")} {
		x, err := weave.Weave(h, e)
		if err != api.OK {
			t.Fatal(err)
		}
		h = added(t, h, x)
	}
	if docOf(t, h).Text() != "ayze" {
		t.Fatal(docOf(t, h).Text())
	}
	if got := allowed(h); !slices.Equal(got, []int{0, 2, 4}) {
		t.Fatal(got)
	}
	for _, x := range []struct {
		upto, dropped int
		e             api.Edit
		want          string
	}{
		// Context 2: axye is seen; 4: ayze.
		{2, 3, writes(name(4, 1), 2, 1, "w"), "awyze"}, {2, 3, writes(name(4, 1), 2, 2, "w"), "awyze"}, {2, 3, writes(name(4, 1), 2, 3, "w"), "ayzwe"}, {2, 3, deletes(name(4, 1), 2, 0, 4), "z"}, {2, 3, writes(name(1, 3), 2, 3, "w"), "aywze"},
		{2, 3, writes(name(3, 2), 3, 1, "w"), "awyze"}, {2, 3, writes(name(4, 1), 4, 1, "w"), "awyze"}, {2, 3, deletes(name(4, 1), 4, 1, 2), "ae"},
		{4, 4, writes(name(4, 1), 4, 1, "w"), "awyze"}, {4, 4, writes(name(2, 2), 4, 2, "w"), "aywze"}, {4, 4, writes(name(4, 1), 4, 4, "w"), "ayzew"}, {4, 4, deletes(name(4, 1), 4, 0, 4), ""},
		{0, 0, writes(name(4, 1), 0, 2, "w"), "aywze"}, {0, 0, deletes(name(4, 1), 0, 0, 5), "yz"},
	} {
		less, places, err := collect.Collect(h, x.upto)
		if err != api.OK || len(docOf(t, h).Cells())-len(docOf(t, less).Cells()) != x.dropped {
			t.Fatal(places, err)
		}
		_, next, err := both(t, h, less, x.e)
		if got := docOf(t, next).Text(); got != x.want || err != api.OK {
			t.Errorf("up to %d, %v: %q, %d, not %q", x.upto, x.e, got, err, x.want)
		}
	}
}

// few is a history of a and c, and a b between, that is Gone.
func few() hist.Hist {
	return abc(3, 0b010)
}

// asked are all edits of a name and a Context that may be done where so many cells are seen, and the first ones beyond.
func asked(n api.Name, context, live int) []api.Edit {
	var l []api.Edit
	for at := range live + 2 {
		l = append(l, writes(n, context, at, "xy"[:1+n.Site%2]))
		for long := 1; at+long <= live+1; long++ {
			l = append(l, deletes(n, context, at, long))
		}
	}
	return l
}

// seenBy tells how many cells a site sees that has taken in all up to a number, and its own.
func seenBy(t *testing.T, h hist.Hist, n api.Name, context int) int {
	t.Helper()
	d, err := weave.Context(h, deletes(n, context, 0, 1))
	if err != api.OK {
		t.Fatalf("%v, that knows up to %d of %v: %d", n, context, brief(h), err)
	}
	return d.Live()
}

// leastOf is the least Context that a site's next edit may have in a history.
func leastOf(h hist.Hist, site int) int {
	least := h.From
	for _, e := range h.List {
		if e.Op.Name.Site == site {
			least = max(least, e.Edit.Context)
		}
	}
	return least
}

// P17.3: all there is to ask for, of three edits upon few cells, collected up to each allowed number behind each of the first two; and of what may be asked for then, of each site, every few.
func TestBothSmall(t *testing.T) {
	woven, refused, all := 0, 0, 0
	for _, sites := range [][2]int{{1, 2}, {2, 1}, {1, 1}} {
		var grow func(h hist.Hist, k int)
		grow = func(h hist.Hist, k int) {
			for _, upto := range allowed(h) {
				less := collected(t, h, upto)
				for site := 1; site <= 3; site++ {
					n := nextOf(h, site)
					for context := max(upto, leastOf(h, site)); context <= h.Num; context++ {
						for _, e := range asked(n, context, seenBy(t, h, n, context)) {
							if all++; k > 1 && all%7 > 0 {
								continue
							}
							if _, _, err := both(t, h, less, e); err == api.OK {
								woven++
							} else {
								refused++
							}
						}
					}
				}
			}
			if k == len(sites) {
				return
			}
			n := nextOf(h, sites[k])
			for context := leastOf(h, n.Site); context <= h.Num; context++ {
				for _, e := range asked(n, context, seenBy(t, h, n, context)) {
					if x, err := weave.Weave(h, e); err == api.OK {
						grow(added(t, h, x), k+1)
					}
				}
			}
		}
		grow(few(), 0)
	}
	if woven < 3000 || refused < 1000 {
		t.Error(woven, refused, all)
	}
}

// randomEdit makes the next edit of a site, that may be done where so many cells are seen; mostly near what was asked for before.
func randomEdit(r *rand.Rand, n api.Name, context, live, near int) api.Edit {
	at := r.Intn(live + 1)
	if near >= 0 && r.Intn(2) == 0 {
		at = min(max(near+r.Intn(3)-1, 0), live)
	}
	if at == live || r.Intn(2) == 0 {
		return writes(n, context, at, strings.Repeat("w\u00e9\u20ac\U0001f642", 3)[:[]int{1, 3, 10}[r.Intn(3)]])
	}
	return deletes(n, context, at, 1+r.Intn(min(live-at, 1+r.Intn(9))))
}

// randomBase makes a history of cells, live ones and Gone ones, each of a name of its own.
func randomBase(r *rand.Rand) hist.Hist {
	var h hist.Hist
	for k := range r.Intn(12) {
		h.Base = append(h.Base, cell(maxSites, k+1, r.Intn(maxText), 'a'+rune(k), r.Intn(3) == 0))
	}
	if len(h.Base) > 0 {
		h.Vector = append(make([]int, maxSites-1), len(h.Base))
	}
	h.From = r.Intn(5)
	h.Num = h.From + r.Intn(3)
	return h
}

// world is a history that keeps all, to which alone is added what is woven, the sheet of named cells upon which that is played, and the history, collected as it goes on.
type world struct {
	r        *rand.Rand
	h, less  hist.Hist
	s        *hists.Sheet
	contexts []int // how far each site is
	near     int
}

// newWorld makes a world of some sites.
func newWorld(t *testing.T, seed int64) *world {
	t.Helper()
	r := rand.New(rand.NewSource(seed))
	w := &world{r: r, h: randomBase(r), contexts: make([]int, 2+r.Intn(5)), near: -1}
	w.less, w.s = collected(t, w.h, w.h.From), hists.NewSheet(w.h.Base)
	for i := range w.contexts {
		w.contexts[i] = w.h.From
	}
	return w
}

// goesOn lets a site take in some of what there is, or all of it.
func (w *world) goesOn(site int) {
	w.contexts[site] += w.r.Intn(w.h.Num - w.contexts[site] + 1)
	if w.r.Intn(4) == 0 {
		w.contexts[site] = w.h.Num
	}
}

// edit makes the next edit of a site.
func (w *world) edit(site int) api.Edit {
	n := nextOf(w.h, site)
	e := randomEdit(w.r, n, w.contexts[site], w.s.Live(api.Edit{Name: n, Context: w.contexts[site]}), w.near)
	w.near = e.At
	return e
}

// writes weaves an edit into both histories.
func (w *world) writes(t *testing.T, e api.Edit) {
	t.Helper()
	var err api.Errno
	w.h, w.less, err = both(t, w.h, w.less, e)
	if err != api.OK {
		t.Fatalf("%v: %d", e, err)
	}
	w.s.Write(e, w.h.Num)
	if got := docOf(t, w.h).Cells(); !slices.Equal(got, w.s.Cells()) {
		t.Fatalf("%v leaves %v, not %v", e, got, w.s.Cells())
	}
}

// collects collects further, up to the greatest allowed number that all sites have come to.
func (w *world) collects(t *testing.T) {
	t.Helper()
	bound := w.less.From
	for _, upto := range allowed(w.h) {
		if upto <= slices.Min(w.contexts[1:]) {
			bound = max(bound, upto)
		}
	}
	less := collected(t, w.less, bound)
	if want := collected(t, w.h, bound); !sameHist(less, want) {
		t.Fatalf("collected up to %d, then %d:\n%v, not\n%v", w.less.From, bound, brief(less), brief(want))
	}
	w.less = less
}

// asks checks what may be asked for of a history and of that, collected up to each number that is allowed, but isn't woven for good: fit or not, in range or not, of sites that have come that far.
func (w *world) asks(t *testing.T, seen map[api.Errno]int) {
	t.Helper()
	l := allowed(w.h)
	upto := l[w.r.Intn(len(l))]
	less := collected(t, w.h, upto)
	for range 4 {
		n := nextOf(w.h, 1+w.r.Intn(len(w.contexts)))
		context := upto + w.r.Intn(w.h.Num-upto+2)
		for _, e := range []api.Edit{writes(n, context, w.r.Intn(12), "vw"), deletes(n, context, w.r.Intn(9), 1+w.r.Intn(6))} {
			if w.r.Intn(6) == 0 {
				*[]*int{&e.Name.Seq, &e.Len, &e.Kind, &e.At}[w.r.Intn(4)] += []int{1, -1, maxCells}[w.r.Intn(3)]
			}
			_, _, err := both(t, w.h, less, e)
			seen[err]++
		}
	}
}

// P17.3: worlds of some sites that write at once, each as far behind as it likes; one history keeps all, the other one is collected again and again, as soon as all sites have come that far.
func TestBothMany(t *testing.T) {
	seen, dropped, cut := map[api.Errno]int{}, 0, 0
	for seed := range int64(80) {
		w := newWorld(t, seed)
		for range 10 + w.r.Intn(30) {
			site := 1 + w.r.Intn(len(w.contexts)-1)
			if w.r.Intn(3) > 0 {
				w.goesOn(site)
			}
			w.writes(t, w.edit(site))
			for w.r.Intn(8) == 0 {
				w.h, w.less = passed(t, w.h), passed(t, w.less)
			}
			if w.r.Intn(3) == 0 {
				w.goesOn(1 + w.r.Intn(len(w.contexts)-1))
				w.collects(t)
			}
			if w.r.Intn(2) == 0 {
				w.asks(t, seen)
			}
		}
		for _, upto := range allowed(w.h) {
			twice(t, w.h, upto)
		}
		dropped += len(docOf(t, w.h).Cells()) - len(docOf(t, w.less).Cells())
		cut += len(w.h.List) - len(w.less.List)
	}
	for err, least := range map[api.Errno]int{api.OK: 1500, api.ErrArg: 80, api.ErrRange: 150, api.ErrOrder: 700} {
		if seen[err] < least {
			t.Error(seen)
		}
	}
	if dropped < 600 || cut < 600 {
		t.Error(dropped, cut)
	}
}
