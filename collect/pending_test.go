package collect_test

import (
	"math/rand"
	"slices"
	"testing"

	"foolscap/api"
	"foolscap/collect"
	"foolscap/hist"
	"foolscap/model/hists"
	"foolscap/rebase"
	"foolscap/weave"
)

// P17.3: what can't be woven into the one can't into the other one, with the same error: where something is pending, and where no number is left.
func TestBothRefused(t *testing.T) {
	pending := abc(5, 0b01010)
	pending.Num, pending.List = 3, entries(deletion(name(1, 1), 2, 1, 2), insertion(name(3, 1), 0, 2, "p"), deletion(name(3, 2), 0, 0, 1))
	last := clone(pending)
	last.Num, last.List = maxNum, last.List[:1]
	for i := range last.List {
		last.List[i].Edit.Context = 0
	}
	for _, x := range []struct {
		h     hist.Hist
		uptos []int
		want  api.Errno
	}{{pending, []int{0, 1, 2, 3}, api.ErrState}, {last, []int{0, 2, maxNum - 1, maxNum}, api.ErrEnd}} {
		for _, upto := range x.uptos {
			less := collected(t, x.h, upto)
			for site := 1; site <= 4; site++ {
				for _, context := range []int{upto, x.h.Num} {
					for _, e := range []api.Edit{writes(nextOf(x.h, site), context, 0, "w"), writes(nextOf(x.h, site), context, 99, "w"), deletes(nextOf(x.h, site), context, 0, 1)} {
						if _, _, err := both(t, x.h, less, e); err != x.want {
							t.Errorf("up to %d, %v: %d, not %d", upto, e, err, x.want)
						}
					}
				}
			}
			// What may not be goes ahead of it.
			if _, _, err := both(t, x.h, less, writes(name(4, 1), x.h.Num, 0, "")); err != api.ErrArg {
				t.Error(upto, err)
			}
		}
	}
}

// desk is the site 1, that writes ahead of the numbers, and the relay's history, to which alone is added what is woven; the site's history that keeps all, and the one that is collected as it goes on.
type desk struct {
	r        *rand.Rand
	relay    hist.Hist
	h, less  hist.Hist
	asked    int   // how many of the pending edits have numbers at the relay
	contexts []int // how far each other site is
	near     int
}

// waits are the site's pending edits.
func (d *desk) waits() []api.Edit {
	var l []api.Edit
	for _, e := range d.h.List {
		if e.Op.Num == 0 {
			l = append(l, e.Edit)
		}
	}
	return l
}

// numbers gives an edit the next number.
func (d *desk) numbers(t *testing.T, e api.Edit) {
	t.Helper()
	x, err := weave.Weave(d.relay, e)
	if err != api.OK {
		t.Fatalf("%v: %d", e, err)
	}
	d.relay = added(t, d.relay, x)
}

// otherWrites lets another site write.
func (d *desk) otherWrites(t *testing.T) {
	t.Helper()
	site := 2 + d.r.Intn(len(d.contexts)-2)
	d.contexts[site] += d.r.Intn(d.relay.Num - d.contexts[site] + 1)
	n := nextOf(d.relay, site)
	e := randomEdit(d.r, n, d.contexts[site], seenBy(t, d.relay, n, d.contexts[site]), d.near)
	d.near = e.At
	d.numbers(t, e)
}

// writes lets the site itself write.
func (d *desk) writes(t *testing.T) {
	t.Helper()
	e := randomEdit(d.r, nextOf(d.h, 1), d.h.Num, docOf(t, d.h).Live(), d.near)
	d.near = e.At
	h, op, err := rebase.Local(d.h, e)
	less, lessOp, lessErr := rebase.Local(d.less, e)
	if err != api.OK || lessErr != api.OK {
		t.Fatalf("Local of %v: %d, %d", e, err, lessErr)
	}
	d.becomes(t, h, less, op, lessOp)
}

// takes lets the site take in the next number.
func (d *desk) takes(t *testing.T) {
	t.Helper()
	i := slices.IndexFunc(d.relay.List, func(e api.Entry) bool { return e.Op.Num == d.h.Num+1 })
	if i < 0 {
		d.h, d.less = passed(t, d.h), passed(t, d.less)
		return
	}
	e := d.relay.List[i].Edit
	h, op, own, err := rebase.Take(d.h, e)
	less, lessOp, lessOwn, lessErr := rebase.Take(d.less, e)
	if err != api.OK || lessErr != api.OK || own != lessOwn || own != (e.Name.Site == 1) {
		t.Fatalf("Take of %v: %t, %d, %t, %d", e, own, err, lessOwn, lessErr)
	}
	if own {
		d.asked--
	}
	d.becomes(t, h, less, op, lessOp)
}

// becomes checks that a step did the same, by the cells' names, to both histories' documents.
func (d *desk) becomes(t *testing.T, h, less hist.Hist, op, lessOp api.Op) {
	t.Helper()
	_, _, dropped, err := hists.Collect(d.h, d.less.From)
	if want := dropped.Op(op, docOf(t, d.h).Cells()); err != api.OK || op.Kind != 0 && !alike(lessOp, want) {
		t.Fatalf("%v was carried out as %v, not %v", op, lessOp, want)
	}
	d.h, d.less = h, less
	if want := collected(t, d.h, d.less.From); !sameHist(d.less, want) || docOf(t, d.less).Text() != docOf(t, d.h).Text() {
		t.Fatalf("%v:\n%v of what is collected, not\n%v", op, brief(d.less), brief(want))
	}
}

// collects collects further, as far as all have come, up to an allowed number; what is pending knows all up to that.
func (d *desk) collects(t *testing.T) {
	t.Helper()
	bound := d.less.From
	for _, upto := range allowed(d.relay) {
		knows := func(e api.Edit) bool { return e.Context >= upto }
		l := d.waits()
		if upto <= min(d.h.Num, slices.Min(d.contexts[2:])) && !slices.ContainsFunc(l, func(e api.Edit) bool { return !knows(e) }) {
			bound = max(bound, upto)
		}
	}
	less, _, err := collect.Collect(d.less, bound)
	if want := collected(t, d.h, bound); err != api.OK || !sameHist(less, want) {
		t.Fatalf("collected up to %d, then %d:\n%v, not\n%v", d.less.From, bound, brief(less), brief(want))
	}
	d.less = less
}

// P17.3, of what is pending (layer 15): a site's history goes on as it would have, be it collected or not, whatever it writes and takes in, as long as what it writes, and what comes, knows all that was collected.
func TestPendingBoth(t *testing.T) {
	dropped, waited := 0, 0
	for seed := range int64(120) {
		r := rand.New(rand.NewSource(seed))
		d := &desk{r: r, relay: randomBase(r), contexts: make([]int, 4+r.Intn(3)), near: -1}
		d.h, d.less = clone(d.relay), collected(t, d.relay, d.relay.From)
		for i := range d.contexts {
			d.contexts[i] = d.relay.From
		}
		for range 60 + r.Intn(90) {
			switch r.Intn(12) {
			case 0, 1:
				d.otherWrites(t)
			case 2, 3:
				if l := d.waits(); d.asked < len(l) {
					d.numbers(t, l[d.asked])
					d.asked++
				}
			case 4:
				if len(d.waits()) < 5 {
					d.writes(t)
				}
			case 5, 6, 7, 8:
				if d.h.Num < d.relay.Num {
					d.takes(t)
				}
			default:
				for site := range d.contexts {
					d.contexts[site] += r.Intn(d.relay.Num - d.contexts[site] + 1)
				}
				d.collects(t)
				if r.Intn(3) == 0 {
					d.relay = passed(t, d.relay)
				}
			}
			waited += len(d.waits())
		}
		dropped += len(docOf(t, d.h).Cells()) - len(docOf(t, d.less).Cells())
	}
	if dropped < 300 || waited < 3000 {
		t.Error(dropped, waited)
	}
}
