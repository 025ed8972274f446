package hists

import (
	"slices"

	"foolscap/api"
	"foolscap/hist"
	"foolscap/model"
)

// Cell makes a cell.
func Cell(site, seq, off int, r rune, gone bool) api.Cell {
	return api.Cell{Name: model.Name(site, seq), Off: off, R: r, Gone: gone}
}

// Entry makes an entry of an operation, with an edit that is like none other's.
func Entry(op api.Op) api.Entry {
	e := api.Edit{Name: op.Name, Context: op.Name.Seq, Kind: op.Kind, At: op.Name.Site}
	switch op.Kind {
	case api.Ins:
		e.Text = "edit"[op.Num&1:]
	case api.Del:
		e.Len = 1 + op.Num%7
	}
	return api.Entry{Op: op, Edit: e}
}

// Entries makes entries of operations.
func Entries(l ...api.Op) []api.Entry {
	var all []api.Entry
	for _, op := range l {
		all = append(all, Entry(op))
	}
	return all
}

// Sample is a history as they come: of several sites, with pending entries; some of what it does is done to what it inserted.
func Sample() hist.Hist {
	return hist.Hist{
		Base:   []api.Cell{Cell(1, 1, 0, 'a', true), Cell(1, 1, 1, 'b', false), Cell(2, 1, 0, 0x20ac, true), Cell(2, 1, 1, 'c', true), Cell(1, 1, 2, 'd', false), Cell(3, 5, 7, 0x1f642, false), Cell(1, 1, 3, 'e', true)},
		Vector: []int{1, 1, 5, 0, 2},
		From:   4,
		Num:    12,
		List: Entries(
			model.Insertion(model.Name(1, 2), 5, 2, "xyw"),
			model.Deletion(model.Name(2, 2), 7, 0, 1, 3, 3),
			model.Insertion(model.Name(4, 1), 8, 10, "q"),
			model.Insertion(model.Name(1, 3), 11, 3, "\u00e9"),
			model.Insertion(model.Name(3, 6), 0, 1, "pp"),
			model.Deletion(model.Name(3, 7), 0, 2, 2, 10, 1),
		),
	}
}

// Numbered is the sample without what is pending.
func Numbered() hist.Hist {
	h := Sample()
	h.List = h.List[:4]
	return h
}

// Long is a history of so many entries, upon a few cells: insertions, and every fifth of them a deletion, of all sites by turns; from one on they are pending, of the site 7.
func Long(n, pending int) hist.Hist {
	h := hist.Hist{Base: Sample().Base, Vector: []int{1, 1, 5}}
	counts := map[int]int{1: 1, 2: 1, 3: 5}
	size := len(h.Base)
	for i := range n {
		site, num := 1+i%model.MaxSites, i+1
		if i >= pending {
			site, num = 7, 0
		} else {
			h.Num = num
		}
		counts[site]++
		op := model.Insertion(model.Name(site, counts[site]), num, i*7%(size+1), "abc"[:1+i%3])
		if i%5 == 4 {
			op = model.Deletion(op.Name, num, i%size, 1)
		}
		size += model.Adds(op)
		h.List = append(h.List, Entry(op))
	}
	return h
}

// Wide is a history upon so many cells of one site, each 200 of one name.
func Wide(n int) hist.Hist {
	var h hist.Hist
	for i := range n {
		h.Base = append(h.Base, Cell(2, 1+i/model.MaxText, i%model.MaxText, 'm', i%3 == 2))
	}
	if n > 0 {
		h.Vector = []int{0, (n + model.MaxText - 1) / model.MaxText}
	}
	return h
}

// Randomly makes a history that may be, as pick picks numbers below what it is given: its Base is what some operations left, and of that not all.
func Randomly(pick func(int) int) hist.Hist {
	counts := make([]int, model.MaxSites)
	sites := 1 + pick(4)
	next := func(site int) api.Name {
		counts[site-1]++
		return model.Name(site, counts[site-1])
	}
	var h hist.Hist
	for range pick(5) {
		h.Base = model.Play(h.Base, model.Picked(pick, next(1+pick(sites)), len(h.Base)))
	}
	h.Base = slices.DeleteFunc(h.Base, func(c api.Cell) bool { return pick(3) == 0 && (c.Gone || pick(3) == 0) })
	for i := range counts {
		counts[i] += pick(2) * pick(2)
	}
	h.Vector = slices.Clone(counts)
	for n := len(h.Vector); n > 0 && h.Vector[n-1] == 0; n-- {
		h.Vector = h.Vector[:n-1]
	}
	h.From = pick(4)
	h.Num = h.From
	size, at := len(h.Base), []int(nil)
	add := func(n api.Name, num int) {
		op := model.Picked(pick, n, size, at...)
		op.Num = num
		size += model.Adds(op)
		if op.Kind == api.Ins {
			at = append(at, op.At, op.At+model.Adds(op))
		}
		h.List = append(h.List, Entry(op))
	}
	for range pick(6) {
		h.Num += 1 + pick(3)*pick(2)
		add(next(1+pick(sites)), h.Num)
	}
	h.Num += pick(2) * pick(3)
	site := 1 + pick(model.MaxSites)
	for range pick(4) * pick(2) {
		add(next(site), 0)
	}
	return h
}
