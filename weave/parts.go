package weave

import (
	"iter"
	"slices"
	"strings"

	"foolscap/api"
	"foolscap/hist"
	"foolscap/lists"
	"foolscap/ops"
)

// knows tells whether an edit was made with an entry already there.
func knows(e api.Edit, entry api.Entry) bool {
	return entry.Op.Num <= e.Context || entry.Op.Name.Site == e.Name.Site
}

// parts goes along the operations of entries: whether an edit knows one, and the operation.
func parts(l []api.Entry, e api.Edit) iter.Seq2[bool, api.Op] {
	return func(yield func(bool, api.Op) bool) {
		for _, entry := range l {
			if !yield(knows(e, entry), entry.Op) {
				return
			}
		}
	}
}

// transposed tells the operations that an edit knows, and the others, as they are when those that it knows stand first. Their texts and spans may be the history's own.
func transposed(h hist.Hist, e api.Edit) (known, others []api.Op, err api.Errno) {
	if err := ask(h, e); err != api.OK {
		return nil, nil, err
	}
	size := len(h.Base)
	for isKnown, op := range parts(h.List, e) {
		if !isKnown {
			others = append(others, op)
			continue
		}
		op, others, err = ahead(op, others, size)
		if err != api.OK {
			return nil, nil, err
		}
		known = append(known, op)
		size += ops.Adds(op)
	}
	return known, others, api.OK
}

// ahead tells an operation that stands behind others as it is ahead of them, and them as they are behind it.
func ahead(op api.Op, others []api.Op, size int) (api.Op, []api.Op, api.Errno) {
	if len(others) == 0 {
		return op, nil, api.OK
	}
	brought, err := lists.Bring(slices.Concat(others, []api.Op{op}), len(others), 0, size)
	if err != api.OK {
		return api.Op{}, nil, err
	}
	return brought[0], brought[1:], api.OK
}

// ownAll tells operations in memory of their own.
func ownAll(l []api.Op) []api.Op {
	var all []api.Op
	for _, op := range l {
		op.Text = strings.Clone(op.Text)
		op.Spans = append([]api.Span(nil), op.Spans...)
		all = append(all, op)
	}
	return all
}
