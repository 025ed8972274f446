package collect_test

import (
	"slices"
	"strings"
	"testing"

	"foolscap/api"
	"foolscap/collect"
	"foolscap/hist"
	"foolscap/model/hists"
)

// spoilt is a history that may not be, and which of chapter 13's words alone doesn't hold of it.
type spoilt struct {
	words string
	h     hist.Hist
}

// spoils are histories that may not be: the sample, each of a thing alone that is spoilt, and such as are made for it.
func spoils() []spoilt {
	var l []spoilt
	add := func(words string, do func(h *hist.Hist)) {
		h := clone(hists.Sample())
		do(&h)
		l = append(l, spoilt{words, h})
	}
	spoilBase(add)
	spoilNumbers(add)
	spoilEdits(add)
	spoilOps(add)
	spoilNames(add)
	return append(l, spoiltWholes()...)
}

// spoilBase spoils what stands ahead of all entries.
func spoilBase(add func(words string, do func(h *hist.Hist))) {
	const base, names, vector = "a document of Base", "the names of Base", "a vector"
	for _, i := range []int{0, 3, 6} {
		for _, off := range append(huge, maxText) {
			add(base, func(h *hist.Hist) { h.Base[i].Off = off })
		}
		for _, r := range []rune{-1, 0xd800, 0xdfff, 0x110000} {
			add(base, func(h *hist.Hist) { h.Base[i].R = r })
		}
		for _, n := range []api.Name{name(1, 2), name(2, 2), name(3, 6), name(4, 1), name(5, 3), name(6, 1), name(maxSites, 1), name(1, maxNum)} {
			add(names, func(h *hist.Hist) { h.Base[i].Name, h.Base[i].Off = n, 9 })
		}
		add(base, func(h *hist.Hist) { h.Base[i] = h.Base[1] })
		add(base, func(h *hist.Hist) {
			h.Base[i].Name, h.Base[i].Off, h.Base[i].Gone = h.Base[4].Name, h.Base[4].Off, !h.Base[4].Gone
		})
	}
	add(names, func(h *hist.Hist) { h.Vector, h.List = nil, nil })
	for _, n := range append(huge, 0) {
		add(vector, func(h *hist.Hist) { h.Vector[4] = n })
		add(vector, func(h *hist.Hist) { h.Vector = append(h.Vector, n) })
	}
	add(vector, func(h *hist.Hist) { h.Vector = append(h.Vector, 0, 0, 0, 0, 0, 0, 0, 0, 0, 0, 0, 1) })
}

// spoilNumbers spoils From, Num and the numbers.
func spoilNumbers(add func(words string, do func(h *hist.Hist))) {
	const from, num, rising, upTo = "From", "Num", "numbers above From, and rising", "numbers up to Num"
	for _, n := range []int{huge[0], huge[1], -1} {
		add(from, func(h *hist.Hist) { h.From = n })
		add(from, func(h *hist.Hist) { h.Num, h.From, h.List = 0, n, nil })
	}
	for _, n := range []int{13, 14, maxNum} {
		add(from, func(h *hist.Hist) { h.From, h.List = n, nil })
	}
	for _, n := range []int{maxNum + 1, huge[len(huge)-1]} {
		add(num, func(h *hist.Hist) { h.Num = n })
		add(num, func(h *hist.Hist) { h.Num, h.From, h.List = n, n, nil })
	}
	for _, n := range []int{5, 6, 11, 12} {
		add(rising, func(h *hist.Hist) { h.From = n })
	}
	for _, n := range []int{4, 5, 10} {
		add(upTo, func(h *hist.Hist) { h.Num = n })
	}
	// The numbers are 5, 7, 8 and 11.
	for _, x := range []struct{ i, num int }{{0, 4}, {0, 1}, {0, 7}, {0, 8}, {0, 12}, {1, 5}, {1, 1}, {1, 8}, {1, 12}, {2, 7}, {2, 5}, {2, 11}, {2, 12}, {3, 8}, {3, 7}, {3, 1}} {
		add(rising, func(h *hist.Hist) { h.List[x.i].Op.Num = x.num })
	}
	add(upTo, func(h *hist.Hist) { h.List[3].Op.Num = 13 })
	add(upTo, func(h *hist.Hist) { h.List[3].Op.Num = maxNum })
}

// spoilEdits spoils the entries' edits.
func spoilEdits(add func(words string, do func(h *hist.Hist))) {
	const edit, names, kind = "an edit", "the operation's name", "the operation's kind"
	for i, e := range hists.Sample().List {
		for _, n := range huge {
			add(edit, func(h *hist.Hist) { h.List[i].Edit.Context = n })
			add(edit, func(h *hist.Hist) { h.List[i].Edit.At = n })
			add(edit, func(h *hist.Hist) { h.List[i].Edit.Len = n })
		}
		add(edit, func(h *hist.Hist) { h.List[i].Edit.At = maxCells + 1 })
		add(edit, func(h *hist.Hist) { h.List[i].Edit.Text = "\xff" })
		add(edit, func(h *hist.Hist) { h.List[i].Edit.Text = strings.Repeat("a", maxText+1) })
		add(names, func(h *hist.Hist) { h.List[i].Edit.Name.Seq++ })
		add(names, func(h *hist.Hist) { h.List[i].Edit.Name.Site++ })
		if e.Op.Kind == api.Ins {
			add(edit, func(h *hist.Hist) { h.List[i].Edit.Text = "" })
			add(edit, func(h *hist.Hist) { h.List[i].Edit.Len = 1 })
			add(kind, func(h *hist.Hist) { h.List[i].Edit.Kind, h.List[i].Edit.Len, h.List[i].Edit.Text = api.Del, 1, "" })
		} else {
			add(edit, func(h *hist.Hist) { h.List[i].Edit.Text = "a" })
			add(edit, func(h *hist.Hist) { h.List[i].Edit.Len = 0 })
			add(kind, func(h *hist.Hist) { h.List[i].Edit.Kind, h.List[i].Edit.Len, h.List[i].Edit.Text = api.Ins, 0, "a" })
		}
	}
}

// spoilOps spoils the operations as a list.
func spoilOps(add func(words string, do func(h *hist.Hist))) {
	const operations = "the operations"
	for i, size := range []int{7, 10, 10, 11, 12, 14} {
		if hists.Sample().List[i].Op.Kind == api.Ins {
			add(operations, func(h *hist.Hist) { h.List[i].Op.At = size + 1 })
			add(operations, func(h *hist.Hist) { h.List[i].Op.At = -1 })
			add(operations, func(h *hist.Hist) { h.List[i].Op.Text = "" })
			add(operations, func(h *hist.Hist) { h.List[i].Op.Text = "a\xc0" })
			add(operations, func(h *hist.Hist) { h.List[i].Op.Text = strings.Repeat("a", maxText+1) })
			add(operations, func(h *hist.Hist) { h.List[i].Op.Spans = list(0, 1) })
			continue
		}
		for _, s := range [][]api.Span{list(0, size+1), list(size, 1), list(0, 1, 1, 1), list(0, 0), list(3, 1, 1, 1), list(-1, 1), list(0, -1), list(1, huge[len(huge)-1])} {
			add(operations, func(h *hist.Hist) { h.List[i].Op.Spans = s })
		}
		add(operations, func(h *hist.Hist) { h.List[i].Op.At = 1 })
		add(operations, func(h *hist.Hist) { h.List[i].Op.Text = "a" })
	}
	add(operations, func(h *hist.Hist) { h.Base = h.Base[:5] })
}

// spoilNames spoils the operations' names, and the edits' with them.
func spoilNames(add func(words string, do func(h *hist.Hist))) {
	const seqs, site = "Seqs one above the other", "one site"
	rename := func(words string, i int, n api.Name) {
		add(words, func(h *hist.Hist) { h.List[i].Op.Name, h.List[i].Edit.Name = n, n })
	}
	rename(seqs, 1, name(2, 1))
	rename(seqs, 1, name(2, 3))
	rename(seqs, 2, name(4, 2))
	rename(seqs, 2, name(maxSites, 2))
	rename(seqs, 3, name(1, 4))
	rename(seqs, 3, name(1, 1))
	rename(seqs, 5, name(3, 8))
	rename(seqs, 5, name(3, 5))
	rename(site, 5, name(2, 3))
	rename(site, 5, name(maxSites, 1))
	add(seqs, func(h *hist.Hist) { h.Vector[0] = 2 })
	add(seqs, func(h *hist.Hist) { h.Vector[3] = 1 })
	add(seqs, func(h *hist.Hist) { h.Vector[2] = 6 })
}

// spoiltWholes are histories of which more than one thing makes one condition not hold.
func spoiltWholes() []spoilt {
	first := hist.Hist{Num: 2, List: entries(insertion(name(3, 1), 1, 0, "a"), insertion(name(3, 2), 0, 0, "b"), insertion(name(3, 3), 2, 0, "c"))}
	other := clone(first)
	other.List = other.List[1:]
	other.Vector = []int{0, 0, 1}
	return []spoilt{
		{"numbers first", first}, {"numbers first", other},
		{"how many entries", hists.Long(maxList+1, maxList+1)}, {"how many entries", hists.Long(maxList+1, 5)}, {"how many entries", hists.Long(maxList+1, 0)},
	}
}

// P17.2: histories that may not be, each condition broken alone; whatever the number is: such as the history would have, and such as it wouldn't.
func TestMayNot(t *testing.T) {
	seen := map[string]int{}
	for i, x := range spoils() {
		if got := hists.Broken(x.h); !slices.Equal(got, []string{x.words}) {
			t.Fatalf("the test is wrong: %d breaks %q, not %q alone", i, got, x.words)
		}
		seen[x.words]++
		uptos := append([]int{x.h.From - 1, x.h.From, x.h.From + 1, x.h.Num - 1, x.h.Num, x.h.Num + 1, 0, 1, maxNum}, huge...)
		if len(x.h.List)+len(x.h.Base) > 99 {
			uptos = []int{-1, 0, x.h.Num, x.h.Num + 1}
		} else {
			for upto := range 14 {
				uptos = append(uptos, upto)
			}
		}
		for _, upto := range uptos {
			if got, places, err := holds(t, x.h, upto); err != api.ErrArg || !sameHist(got, hist.Hist{}) || len(places) > 0 {
				t.Fatalf("Collect(%v, %d), of which %q doesn't hold: %v, %v, %d", brief(x.h), upto, x.words, brief(got), places, err)
			}
		}
	}
	if len(seen) != 15 {
		t.Errorf("not each condition is broken: %v", seen)
	}
	// One cell too many.
	for _, upto := range []int{-1, 0, 1} {
		if _, _, err := holds(t, hists.Wide(maxCells+1), upto); err != api.ErrArg {
			t.Error(upto, err)
		}
	}
}

// P17.2: numbers below From and above Num, of all kinds of histories.
func TestOutOfRange(t *testing.T) {
	of := func(from, num int) hist.Hist {
		h := abc(3, 2)
		h.From, h.Num = from, num
		return h
	}
	for _, h := range []hist.Hist{{}, hists.Sample(), hists.Numbered(), of(0, 0), of(3, 3), of(0, 3), of(maxNum, maxNum), of(0, maxNum), of(maxNum-1, maxNum), hists.Long(maxList, 7), hists.Wide(maxCells)} {
		for _, upto := range append([]int{h.From - 1, h.From - 2, h.Num + 1, h.Num + 2}, huge...) {
			got, places, err := holds(t, h, upto)
			if err != api.ErrRange || !sameHist(got, hist.Hist{}) || len(places) > 0 {
				t.Errorf("Collect(%v, %d): %v, %v, %d", brief(h), upto, brief(got), places, err)
			}
		}
		for _, upto := range []int{h.From, h.Num} {
			if _, _, err := holds(t, h, upto); err != api.OK {
				t.Errorf("Collect(%v, %d): %d", brief(h), upto, err)
			}
		}
	}
}

// Beside an error the results are zero values, nil lists too.
func TestZeroBesideErrors(t *testing.T) {
	bad := clone(hists.Sample())
	bad.Base[0].R = -1
	for _, x := range []struct {
		h    hist.Hist
		upto int
	}{{bad, 4}, {bad, 99}, {hists.Sample(), 3}, {hists.Sample(), 13}} {
		h, places, err := collect.Collect(x.h, x.upto)
		if err == api.OK || h.Base != nil || h.Vector != nil || h.List != nil || h.From != 0 || h.Num != 0 || places != nil {
			t.Errorf("up to %d: %v, %v, %d", x.upto, h, places, err)
		}
	}
}
