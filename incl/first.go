package incl

import (
	"strings"

	"foolscap/api"
	"foolscap/ops"
	"foolscap/spans"
)

// first is the operation that goes first of two: what it does to the document it does to the other one, too.
type first struct {
	api.Op
}

// pair is the kinds of two operations: of the one behind, and of the one that goes first.
type pair struct {
	behind, ahead int
}

// deedUpon picks what the operation that goes first does to one behind it.
func (f first) deedUpon(op api.Op) func(api.Op) api.Op {
	switch (pair{op.Kind, f.Kind}) {
	case pair{api.Ins, api.Ins}:
		return f.move
	case pair{api.Del, api.Ins}:
		return f.open
	}
	return f.leave
}

// move moves an insertion.
func (f first) move(op api.Op) api.Op {
	op = f.leave(op)
	op.At = f.place(op.At, !ops.Before(f.Op, op))
	return op
}

// open opens a deletion's spans. That can't fail: all its places are in the document, and what f makes of that isn't too great.
func (f first) open(op api.Op) api.Op {
	op.Spans, _ = spans.Open(op.Spans, f.At, ops.Adds(f.Op))
	return op
}

// leave leaves an operation as it was, in memory of its own: deleted cells keep their places.
func (first) leave(op api.Op) api.Op {
	op.Text = strings.Clone(op.Text)
	op.Spans = append([]api.Span(nil), op.Spans...)
	return op
}

// place tells where a place is behind f. Of a deletion, too: it adds nothing.
func (f first) place(p int, stays bool) int {
	if p > f.At || p == f.At && !stays {
		return p + ops.Adds(f.Op)
	}
	return p
}
