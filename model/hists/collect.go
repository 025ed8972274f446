package hists

import (
	"slices"

	"foolscap/api"
	"foolscap/hist"
	"foolscap/model"
)

// Key is a cell by what no other one of a document has.
type Key struct {
	Site, Seq, Off int
}

// KeyOf is a cell by its name.
func KeyOf(c api.Cell) Key {
	return Key{c.Name.Site, c.Name.Seq, c.Off}
}

// Keys are cells by their names.
type Keys map[Key]int

// GoneOf are those of a document that are Gone.
func GoneOf(doc []api.Cell) Keys {
	gone := Keys{}
	for _, c := range doc {
		if c.Gone {
			gone[KeyOf(c)]++
		}
	}
	return gone
}

// has tells whether a cell is one of them.
func (k Keys) has(c api.Cell) bool {
	return k[KeyOf(c)] > 0
}

// Places tells at which places of a document they stand.
func (k Keys) Places(doc []api.Cell) []api.Span {
	var l []api.Span
	for p, c := range doc {
		if k.has(c) {
			l = model.With(l, p)
		}
	}
	return l
}

// Without tells a document without them.
func (k Keys) Without(doc []api.Cell) []api.Cell {
	return slices.DeleteFunc(slices.Clone(doc), k.has)
}

// Op tells an operation upon a document as it is upon that without them: it does the same between the others, and to the others.
func (k Keys) Op(op api.Op, doc []api.Cell) api.Op {
	if op.Kind == 1 {
		op.At = len(k.Without(doc[:op.At]))
		return op
	}
	meant := Keys{}
	for p := range model.Places(op.Spans) {
		meant[KeyOf(doc[p])]++
	}
	op.Spans = meant.Places(k.Without(doc))
	return op
}

// IsCollected tells whether an entry is one that is collected up to a number.
func IsCollected(e api.Entry, upto int) bool {
	return e.Op.Num != 0 && e.Op.Num <= upto
}

// Collect follows P17.2's words, by the names of the cells: the history, the places of those that are dropped, and these.
func Collect(h hist.Hist, upto int) (hist.Hist, []api.Span, Keys, api.Errno) {
	if !May(h) {
		return hist.Hist{}, nil, nil, api.ErrArg
	}
	if upto < h.From || upto > h.Num {
		return hist.Hist{}, nil, nil, api.ErrRange
	}
	done := h
	done.List = slices.DeleteFunc(slices.Clone(h.List), func(e api.Entry) bool { return !IsCollected(e, upto) })
	doc := model.Play(h.Base, OpsOf(done.List)...)
	dropped := GoneOf(doc)
	next := hist.Hist{Base: dropped.Without(doc), Vector: Reached(done), From: upto, Num: h.Num}
	for _, e := range h.List {
		if IsCollected(e, upto) {
			continue
		}
		next.List = append(next.List, api.Entry{Op: dropped.Op(e.Op, doc), Edit: e.Edit})
		doc = model.Play(doc, e.Op)
	}
	return next, dropped.Places(doc), dropped, api.OK
}

// Allowed follows P17.3's words of the numbers up to which a history is collected and goes on as it would have: no entry with a greater number has an edit whose Context is below it. (It tells none of a history's other bounds.)
func Allowed(h hist.Hist, upto int) bool {
	return !slices.ContainsFunc(h.List, func(e api.Entry) bool { return e.Op.Num > upto && e.Edit.Context < upto })
}
