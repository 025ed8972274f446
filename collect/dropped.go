package collect

import (
	"slices"
	"strings"

	"foolscap/api"
	"foolscap/ops"
	"foolscap/spans"
)

// parts tells the entries that are collected up to a number, and those behind them. The room of either ends with it, so that what is laid behind it doesn't run into the history.
func parts(l []api.Entry, upto int) (done, rest []api.Entry) {
	i := slices.IndexFunc(l, func(e api.Entry) bool { return e.Op.Num == 0 || e.Op.Num > upto })
	if i < 0 {
		i = len(l)
	}
	return l[:i:i], l[i:len(l):len(l)]
}

// each tells entries, each gone one way, in order.
func each(l []api.Entry, way func(api.Entry) api.Entry) []api.Entry {
	var all []api.Entry
	for _, e := range l {
		all = append(all, way(e))
	}
	return all
}

// dropped is cells that are dropped: their places in the document, as it would be with them, behind the entries that they have gone along.
type dropped struct {
	places []api.Span
}

// pass tells the next entry as it is without the dropped cells, in memory of its own; they are where they would be behind it from then on.
func (d *dropped) pass(e api.Entry) api.Entry {
	way := d.deletion
	if e.Op.Kind == api.Ins {
		way = d.insertion
	}
	e.Op = way(e.Op)
	e.Op.Text, e.Edit.Text = strings.Clone(e.Op.Text), strings.Clone(e.Edit.Text)
	return e
}

// insertion tells an insertion without the dropped cells; such as don't stand ahead of it go on behind its text.
func (d *dropped) insertion(op api.Op) api.Op {
	at := op.At
	op.At -= spans.Ahead(d.places, at)
	// It can't fail: the history's document has room for the text.
	d.places, _ = spans.Open(d.places, at, ops.Adds(op))
	op.Spans = nil
	return op
}

// deletion tells a deletion without the dropped cells; these stay where they are.
func (d *dropped) deletion(op api.Op) api.Op {
	// Neither can fail: both lists may be, and what is moved back is still a place. Such as dropped ones alone stood between touch then.
	left, _ := spans.Less(op.Spans, d.places)
	op.Spans, _ = spans.Norm(d.back(left))
	return op
}

// back moves spans that have no dropped cell as many places back as there are dropped ones ahead. It goes along both lists but once, as either may be long.
func (d *dropped) back(l []api.Span) []api.Span {
	ahead, k := 0, 0
	for i := range l {
		for k < len(d.places) && d.places[k].From < l[i].From {
			ahead += d.places[k].Len
			k++
		}
		l[i].From -= ahead
	}
	return l
}
