// Package hists says again, in the plainest way, what the chapters say of histories. It is for the tests alone, which hold what the layers answer against it; it calls none of them, and takes of layer 13 the type alone.
package hists

import (
	"slices"

	"foolscap/api"
	"foolscap/hist"
	"foolscap/model"
)

// Clone tells a history in memory of its own.
func Clone(h hist.Hist) hist.Hist {
	h.Base, h.Vector, h.List = slices.Clone(h.Base), slices.Clone(h.Vector), slices.Clone(h.List)
	for i := range h.List {
		h.List[i].Op.Spans = slices.Clone(h.List[i].Op.Spans)
	}
	return h
}

// Brief is a history with no more than can be told.
func Brief(h hist.Hist) hist.Hist {
	h = Clone(h)
	h.Base, h.List = h.Base[:min(len(h.Base), 9)], h.List[:min(len(h.List), 9)]
	for i := range h.List {
		h.List[i].Op = model.Short(h.List[i].Op)
		h.List[i].Edit.Text = ""
	}
	return h
}

// OpsOf are the operations of entries.
func OpsOf(l []api.Entry) []api.Op {
	var all []api.Op
	for _, e := range l {
		all = append(all, e.Op)
	}
	return all
}

// CountOf tells a site's count in a vector.
func CountOf(v []int, site int) int {
	if site < 1 || site > len(v) {
		return 0
	}
	return v[site-1]
}

// mayBase follows the chapter's words, and chapter 12's.
func mayBase(l []api.Cell) bool {
	there := map[[3]int]int{}
	for _, c := range l {
		key := [3]int{c.Name.Site, c.Name.Seq, c.Off}
		if !model.MayCell(c) || there[key] > 0 {
			return false
		}
		there[key] = 1
	}
	return len(l) <= model.MaxCells
}

// Broken tells which of the chapter's words don't hold of a history, one by one.
func Broken(h hist.Hist) []string {
	var all []string
	hold := func(words string, ok bool) {
		if !ok && !slices.Contains(all, words) {
			all = append(all, words)
		}
	}
	hold("a document of Base", mayBase(h.Base))
	hold("a vector", model.MayVector(h.Vector))
	for _, c := range h.Base {
		hold("the names of Base", c.Name.Site >= 1 && c.Name.Seq >= 1 && c.Name.Seq <= CountOf(h.Vector, c.Name.Site))
	}
	hold("From", h.From >= 0 && h.From <= h.Num)
	hold("Num", h.Num <= model.MaxNum)
	hold("how many entries", len(h.List) <= model.MaxList)
	for _, e := range h.List {
		hold("an edit", model.MayEdit(e.Edit))
		hold("the operation's name", model.AlikeNames(e.Edit.Name, e.Op.Name))
		hold("the operation's kind", e.Edit.Kind == e.Op.Kind)
	}
	_, ok := model.Run(OpsOf(h.List), len(h.Base))
	hold("the operations", ok)
	last, site := h.From, 0
	seqs := slices.Clone(h.Vector)
	for i, e := range h.List {
		n := e.Op.Name
		switch {
		case e.Op.Num == 0:
			hold("one site", site == 0 || n.Site == site)
			site = n.Site
		default:
			hold("numbers first", i == 0 || h.List[i-1].Op.Num != 0)
			hold("numbers above From, and rising", e.Op.Num > last)
			hold("numbers up to Num", e.Op.Num <= h.Num)
			last = e.Op.Num
		}
		if n.Site < 1 || n.Site > model.MaxSites {
			continue
		}
		for len(seqs) < n.Site {
			seqs = append(seqs, 0)
		}
		hold("Seqs one above the other", n.Seq == seqs[n.Site-1]+1)
		seqs[n.Site-1] = n.Seq
	}
	return all
}

// May follows the chapter's words.
func May(h hist.Hist) bool {
	return len(Broken(h)) == 0
}

// Reached follows P13.1's words, of a history that may be.
func Reached(h hist.Hist) []int {
	v := slices.Clone(h.Vector)
	for _, e := range h.List {
		for len(v) < e.Op.Name.Site {
			v = append(v, 0)
		}
		v[e.Op.Name.Site-1]++
	}
	return v
}

// PendingOf follows P13.1's words.
func PendingOf(h hist.Hist) int {
	n := 0
	for _, e := range h.List {
		if e.Op.Num == 0 {
			n++
		}
	}
	return n
}

// Same tells whether all fields of two histories are alike, one by one.
func Same(a, b hist.Hist) bool {
	if a.From != b.From || a.Num != b.Num || !slices.Equal(a.Vector, b.Vector) || len(a.Base) != len(b.Base) || len(a.List) != len(b.List) {
		return false
	}
	for i, c := range a.Base {
		d := b.Base[i]
		if !model.AlikeNames(c.Name, d.Name) || c.Off != d.Off || c.R != d.R || c.Gone != d.Gone {
			return false
		}
	}
	return slices.EqualFunc(a.List, b.List, AlikeEntries)
}

// AlikeEdits tells whether all fields of two edits are, one by one.
func AlikeEdits(d, f api.Edit) bool {
	return model.AlikeNames(d.Name, f.Name) && d.Context == f.Context && d.Kind == f.Kind && d.At == f.At && d.Len == f.Len && d.Text == f.Text
}

// AlikeEntries tells whether all fields of two entries are, one by one.
func AlikeEntries(a, b api.Entry) bool {
	return model.Alike(a.Op, b.Op) && AlikeEdits(a.Edit, b.Edit)
}

// Add follows P13.2's words.
func Add(h hist.Hist, e api.Entry) (hist.Hist, api.Errno) {
	if !May(h) {
		return hist.Hist{}, api.ErrArg
	}
	if len(h.List) == model.MaxList {
		return hist.Hist{}, api.ErrHistory
	}
	if e.Op.Num != 0 && PendingOf(h) > 0 {
		return hist.Hist{}, api.ErrState
	}
	if e.Op.Num != 0 && e.Op.Num != h.Num+1 {
		return hist.Hist{}, api.ErrOrder
	}
	h = Clone(h)
	h.List = append(h.List, e)
	if e.Op.Num != 0 {
		h.Num = e.Op.Num
	}
	if !May(h) {
		return hist.Hist{}, api.ErrArg
	}
	return h, api.OK
}

// Pass follows P13.2's words.
func Pass(h hist.Hist) (hist.Hist, api.Errno) {
	switch {
	case !May(h):
		return hist.Hist{}, api.ErrArg
	case h.Num == model.MaxNum:
		return hist.Hist{}, api.ErrEnd
	}
	h.Num++
	return h, api.OK
}

// Cut follows P13.2's words.
func Cut(h hist.Hist) hist.Hist {
	if !May(h) {
		return hist.Hist{}
	}
	h = Clone(h)
	h.List = slices.DeleteFunc(h.List, func(e api.Entry) bool { return e.Op.Num == 0 })
	return h
}

// Moves follows P13.3's words.
func Moves(h hist.Hist, from, to int) ([][]api.Op, api.Errno) {
	if !May(h) {
		return nil, api.ErrArg
	}
	l := OpsOf(h.List)
	if _, err := model.Bring(l, from, to, len(h.Base)); err != api.OK {
		return nil, err
	}
	all := [][]api.Op{l}
	for p := from; p > to; p-- {
		l, _ = model.Bring(l, p, p-1, len(h.Base))
		all = append(all, l)
	}
	return all, api.OK
}
