package excl

import (
	"sort"
	"strings"

	"foolscap/api"
	"foolscap/ops"
	"foolscap/spans"
)

// ahead is the operation that goes first of two, and is taken out of the other one.
type ahead struct {
	api.Op
}

// hangs is what taking out panics with, where the operation hangs on the one ahead: the parts into which it is torn. It goes no further than Tear.
type hangs struct {
	free api.Op
	lost []api.Span
}

// takenOut tells an operation without the one ahead, in memory of its own.
func (b ahead) takenOut(op api.Op) api.Op {
	op.Text = strings.Clone(op.Text)
	op.Spans = append([]api.Span(nil), op.Spans...)
	switch {
	case b.Kind == api.Del:
		return op // deleted cells kept their places
	case op.Kind == api.Del:
		return b.shut(op)
	}
	return b.move(op)
}

// move moves an insertion back to where it was ahead of b's cells.
func (b ahead) move(op api.Op) api.Op {
	if b.holds(op) {
		off := op.At - b.At
		op.At = b.At
		panic(hangs{op, []api.Span{{From: off}}})
	}
	if op.At > b.At {
		op.At -= ops.Adds(b.Op)
	}
	return op
}

// holds tells whether an insertion hangs on b. At either end of b's cells it does so, where by itself it would have come to the other end.
func (b ahead) holds(op api.Op) bool {
	switch op.At {
	case b.At:
		return ops.Before(b.Op, op)
	case b.end():
		return ops.Before(op, b.Op)
	}
	return b.At < op.At && op.At < b.end()
}

// shut shuts a deletion's spans where b's cells are. Neither Shut can fail: what it is given may be, and has none of the places that go.
func (b ahead) shut(op api.Op) api.Op {
	below, among, above := b.part(op.Spans)
	op.Spans, _ = spans.Shut(append(below, above...), b.At, ops.Adds(b.Op))
	if len(among) > 0 {
		lost, _ := spans.Shut(among, 0, b.At)
		panic(hangs{op, lost})
	}
	return op
}

// part parts spans into those below b's cells, those of them, and those above. The room of each ends with it, so that what is laid behind it doesn't run into the next.
func (b ahead) part(l []api.Span) (below, among, above []api.Span) {
	l = cut(l, b.At, b.end())
	i := sort.Search(len(l), func(i int) bool { return l[i].From >= b.At })
	k := sort.Search(len(l), func(k int) bool { return l[k].From >= b.end() })
	return l[:i:i], l[i:k:k], l[k:len(l):len(l)]
}

// cut tells spans, in memory of their own, with those cut in two that have one of the points inside. The points go up.
func cut(l []api.Span, points ...int) []api.Span {
	var pieces []api.Span
	for _, s := range l {
		for _, p := range points {
			if n := p - s.From; 0 < n && n < s.Len {
				pieces = append(pieces, api.Span{From: s.From, Len: n})
				s = api.Span{From: p, Len: s.Len - n}
			}
		}
		pieces = append(pieces, s)
	}
	return pieces
}

// join gives an operation that was made to fit behind b back what it had lost. What is no lost part joins as it may.
func (b ahead) join(op api.Op, lost []api.Span) api.Op {
	if len(lost) == 0 {
		return op
	}
	if op.Kind == api.Ins {
		op.At = b.At + lost[0].From
		return op
	}
	cells, _ := spans.Open(lost, 0, b.At)
	op.Spans, _ = spans.Any(op.Spans, cells)
	return op
}

// end tells the place behind b's cells.
func (b ahead) end() int {
	return b.At + ops.Adds(b.Op)
}
