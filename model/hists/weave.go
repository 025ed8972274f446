package hists

import (
	"slices"

	"foolscap/api"
	"foolscap/hist"
	"foolscap/model"
)

// Knows follows chapter 14's words.
func Knows(e api.Edit, x api.Entry) bool {
	return x.Op.Num <= e.Context || x.Op.Name.Site == e.Name.Site
}

// Unfit tells which of chapter 14's words of what fits don't hold of an edit, one by one.
func Unfit(h hist.Hist, e api.Edit) []string {
	var all []string
	if e.Context < h.From || e.Context > h.Num {
		all = append(all, "its Context is from From to Num")
	}
	if e.Name.Seq != CountOf(Reached(h), e.Name.Site)+1 {
		all = append(all, "its name is the next one")
	}
	for _, x := range h.List {
		if x.Op.Name.Site == e.Name.Site && x.Edit.Context > e.Context {
			return append(all, "no entry of its site has an edit with a greater Context")
		}
	}
	return all
}

// Split follows P14.1's words.
func Split(h hist.Hist, e api.Edit) ([]api.Op, []api.Op, api.Errno) {
	switch {
	case !May(h) || !model.MayEdit(e):
		return nil, nil, api.ErrArg
	case PendingOf(h) > 0:
		return nil, nil, api.ErrState
	case len(Unfit(h, e)) > 0:
		return nil, nil, api.ErrOrder
	case h.Num == model.MaxNum:
		return nil, nil, api.ErrEnd
	}
	l, known := OpsOf(h.List), 0
	for i, x := range h.List {
		if !Knows(e, x) {
			continue
		}
		var err api.Errno
		l, err = model.Bring(l, i, known, len(h.Base))
		if err != api.OK {
			return nil, nil, err
		}
		known++
	}
	return l[:known], l[known:], api.OK
}

// Context follows P14.1's words: the document's cells.
func Context(h hist.Hist, e api.Edit) ([]api.Cell, api.Errno) {
	known, _, err := Split(h, e)
	if err != api.OK {
		return nil, err
	}
	return model.Play(h.Base, known...), api.OK
}

// Form follows P14.2's words.
func Form(h hist.Hist, e api.Edit) (api.Op, api.Errno) {
	doc, err := Context(h, e)
	if err != api.OK {
		return api.Op{}, err
	}
	return upon(doc, e, h.Num+1)
}

// upon follows the words of P14.2, and of P15.1, of what an edit comes to be upon a document's cells.
func upon(doc []api.Cell, e api.Edit, num int) (api.Op, api.Errno) {
	var live []int
	for p, c := range doc {
		if !c.Gone {
			live = append(live, p)
		}
	}
	if e.At > len(live) || e.Kind == 2 && e.Len > len(live)-e.At {
		return api.Op{}, api.ErrRange
	}
	op := api.Op{Name: e.Name, Num: num, Kind: e.Kind}
	if e.Kind == 1 {
		op.At, op.Text = append(live, len(doc))[e.At], e.Text
	} else {
		for _, p := range live[e.At : e.At+e.Len] {
			op.Spans = model.With(op.Spans, p)
		}
	}
	if !model.MayUpon(op, len(doc)) {
		return api.Op{}, api.ErrArg
	}
	return op, api.OK
}

// Weave follows P14.2's words.
func Weave(h hist.Hist, e api.Edit) (api.Entry, api.Errno) {
	op, err := Form(h, e)
	if err != api.OK {
		return api.Entry{}, err
	}
	known, others, _ := Split(h, e)
	size, _ := model.Run(known, len(h.Base))
	for _, x := range others {
		op = model.Behind(op, x)
		size += model.Adds(x)
		if !model.MayUpon(op, size) {
			return api.Entry{}, api.ErrFull
		}
	}
	return api.Entry{Op: op, Edit: e}, api.OK
}

// Sheet is a plain list of all cells that a history ever had, by which edits each was inserted and deleted; what is done to it goes by what was seen alone.
type Sheet struct {
	cells []inked
	names map[int]api.Name // of the edits, by numbers
}

// inked is a cell of a sheet, the number of the edit that inserted it, 0 of one that was there ahead of all, and the numbers of those that deleted it, -1 ahead of all.
type inked struct {
	api.Cell
	by   int
	gone []int
}

// NewSheet tells the sheet of the cells ahead of all edits.
func NewSheet(base []api.Cell) *Sheet {
	s := &Sheet{names: map[int]api.Name{}}
	for _, c := range base {
		x := inked{Cell: c}
		if c.Gone {
			x.gone = []int{-1}
		}
		s.cells = append(s.cells, x)
	}
	return s
}

// knows tells whether an edit knows that of a number.
func (s *Sheet) knows(e api.Edit, num int) bool {
	return num <= e.Context || s.names[num].Site == e.Name.Site
}

// Context tells the cells that an edit's context has.
func (s *Sheet) Context(e api.Edit) []api.Cell {
	var l []api.Cell
	for _, x := range s.cells {
		if s.knows(e, x.by) {
			c := x.Cell
			c.Gone = slices.ContainsFunc(x.gone, func(num int) bool { return s.knows(e, num) })
			l = append(l, c)
		}
	}
	return l
}

// seen tells the places of the cells that are seen in an edit's context.
func (s *Sheet) seen(e api.Edit) []int {
	var l []int
	for p, x := range s.cells {
		if s.knows(e, x.by) && !slices.ContainsFunc(x.gone, func(num int) bool { return s.knows(e, num) }) {
			l = append(l, p)
		}
	}
	return l
}

// Live tells how many cells are seen in an edit's context.
func (s *Sheet) Live(e api.Edit) int {
	return len(s.seen(e))
}

// Write does what an edit asks for, of what was seen in its context, with a number, and tells the operation that did it.
func (s *Sheet) Write(e api.Edit, num int) api.Op {
	op := api.Op{Name: e.Name, Num: num, Kind: e.Kind}
	seen := s.seen(e)
	if e.Kind == 1 {
		op.At, op.Text = append(seen, len(s.cells))[e.At], e.Text
		var l []inked
		for _, c := range model.Play(nil, api.Op{Name: e.Name, Kind: 1, Text: e.Text}) {
			l = append(l, inked{Cell: c, by: num})
		}
		s.cells = slices.Insert(s.cells, op.At, l...)
	} else {
		for _, p := range seen[e.At : e.At+e.Len] {
			op.Spans = model.With(op.Spans, p)
			s.cells[p].gone = append(s.cells[p].gone, num)
		}
	}
	s.names[num] = e.Name
	return op
}

// Cells tells all cells, as the whole history leaves them.
func (s *Sheet) Cells() []api.Cell {
	var l []api.Cell
	for _, x := range s.cells {
		c := x.Cell
		c.Gone = len(x.gone) > 0
		l = append(l, c)
	}
	return l
}
