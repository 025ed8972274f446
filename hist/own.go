package hist

import (
	"strings"

	"foolscap/api"
)

// own tells a history in memory of its own.
func own(h Hist) Hist {
	h.Base = append([]api.Cell(nil), h.Base...)
	h.Vector = append([]int(nil), h.Vector...)
	h.List = ownAll(h.List, ownEntry)
	return h
}

// ownAll tells a list in memory of its own, with each of its things as alone makes it.
func ownAll[T any](l []T, alone func(T) T) []T {
	var all []T
	for _, thing := range l {
		all = append(all, alone(thing))
	}
	return all
}

// ownEntry tells an entry in memory of its own.
func ownEntry(e api.Entry) api.Entry {
	e.Op = ownOp(e.Op)
	e.Edit.Text = strings.Clone(e.Edit.Text)
	return e
}

// ownOp tells an operation in memory of its own.
func ownOp(op api.Op) api.Op {
	op.Text = strings.Clone(op.Text)
	op.Spans = append([]api.Span(nil), op.Spans...)
	return op
}
