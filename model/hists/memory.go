package hists

import (
	"slices"

	"foolscap/api"
	"foolscap/hist"
	"foolscap/model"
)

// Roomy tells a list with spare room behind it that is filled with a thing.
func Roomy[T any](l []T, thing T) []T {
	filled := slices.Clone(l)
	for range 9 {
		filled = append(filled, thing)
	}
	return filled[:len(l)]
}

// spareCell, spareEntry and spareSpan fill spare room.
var (
	spareCell  = api.Cell{Name: api.Name{Site: -7, Seq: -7}, Off: -7, R: -7, Gone: true}
	spareSpan  = api.Span{From: -7, Len: -7}
	spareEntry = api.Entry{Op: api.Op{Num: -7}, Edit: api.Edit{At: -7}}
)

// RoomyEntry tells an entry with spare room behind its spans, and each text as text writes it.
func RoomyEntry(text func(string) string, e api.Entry) api.Entry {
	e.Op.Spans = Roomy(e.Op.Spans, spareSpan)
	e.Op.Text, e.Edit.Text = text(e.Op.Text), text(e.Edit.Text)
	return e
}

// RoomyHist tells a history with spare room behind each of its lists, and each text as text writes it.
func RoomyHist(text func(string) string, h hist.Hist) hist.Hist {
	h.Base, h.Vector, h.List = Roomy(h.Base, spareCell), Roomy(h.Vector, -7), Roomy(h.List, spareEntry)
	for k := range h.List {
		h.List[k] = RoomyEntry(text, h.List[k])
	}
	return h
}

// Room is a history with what lies behind its lists, within their arrays, in memory of its own.
func Room(h hist.Hist) hist.Hist {
	h.Base, h.Vector, h.List = slices.Clone(h.Base[:cap(h.Base)]), slices.Clone(h.Vector[:cap(h.Vector)]), slices.Clone(h.List[:cap(h.List)])
	for i := range h.List {
		spans := h.List[i].Op.Spans
		h.List[i].Op.Spans = slices.Clone(spans[:cap(spans)])
	}
	return h
}

// Told is all that was answered.
type Told struct {
	Cells   [][]api.Cell
	Numbers [][]int
	Entries [][]api.Entry
	Ops     [][]api.Op
	Spans   [][]api.Span
}

// Hist takes in what a history holds.
func (x *Told) Hist(h hist.Hist) {
	x.Cells, x.Numbers, x.Entries = append(x.Cells, h.Base), append(x.Numbers, h.Vector), append(x.Entries, h.List)
	for _, e := range h.List {
		x.Spans = append(x.Spans, e.Op.Spans)
	}
}

// List takes in operations.
func (x *Told) List(l []api.Op) {
	x.Ops = append(x.Ops, l)
	for _, op := range l {
		x.Spans = append(x.Spans, op.Spans)
	}
}

// anyShared tells whether two of some lists have memory in common.
func anyShared[T any](all [][]T) bool {
	for i := range all {
		for k := range i {
			if model.Shared(all[i], all[k]) {
				return true
			}
		}
	}
	return false
}

// blotAll writes over lists, their spare room too.
func blotAll[T any](all [][]T, thing T) {
	for _, l := range all {
		l = l[:cap(l)]
		for i := range l {
			l[i] = thing
		}
	}
}

// AnyShared tells whether two lists of one kind have memory in common.
func (x *Told) AnyShared() bool {
	return anyShared(x.Cells) || anyShared(x.Numbers) || anyShared(x.Entries) || anyShared(x.Ops) || anyShared(x.Spans)
}

// Blot writes over all lists, their spare room too.
func (x *Told) Blot() {
	blotAll(x.Spans, api.Span{From: -8, Len: -8})
	blotAll(x.Cells, api.Cell{Off: -8})
	blotAll(x.Numbers, -8)
	blotAll(x.Entries, api.Entry{Op: api.Op{At: -8, Text: "no"}})
	blotAll(x.Ops, api.Op{At: -8, Text: "no"})
}
