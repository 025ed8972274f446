package rebase

import (
	"slices"
	"strings"

	"foolscap/api"
	"foolscap/hist"
	"foolscap/lists"
	"foolscap/ops"
)

// parts tells the entries of a history with a number, and those behind them that have none yet.
func parts(h hist.Hist) (numbered, wait []api.Entry) {
	i := slices.IndexFunc(h.List, func(entry api.Entry) bool { return entry.Op.Num == 0 })
	if i < 0 {
		i = len(h.List)
	}
	return h.List[:i], h.List[i:]
}

// isPending tells whether a pending entry of a history has a name.
func isPending(h hist.Hist, n api.Name) bool {
	_, wait := parts(h)
	return slices.ContainsFunc(wait, func(entry api.Entry) bool { return entry.Op.Name == n })
}

// firstPending tells the edit of the first pending entry of a history, if there is one.
func firstPending(h hist.Hist) (api.Edit, bool) {
	_, wait := parts(h)
	if len(wait) == 0 {
		return api.Edit{}, false
	}
	return wait[0].Edit, true
}

// upon tells the operation that an edit comes to be upon the document behind all entries of a history that may be, with no number.
func upon(h hist.Hist, e api.Edit) (api.Op, api.Errno) {
	// It can't fail: the history may be.
	d, _ := hist.Replay(h, len(h.List))
	op := api.Op{Name: e.Name, Kind: e.Kind}
	var err api.Errno
	if e.Kind == api.Ins {
		op.Text = strings.Clone(e.Text)
		op.At, err = d.Gap(e.At)
	} else {
		op.Spans, err = d.Run(e.At, e.Len)
	}
	if err != api.OK {
		return api.Op{}, err
	}
	return op, only(ops.May(op, d.Size()), api.ErrArg)
}

// crossed tells the operation of an entry, that is woven into what has a number in a history that may be, as it is behind what is pending there, and what is pending behind that.
func crossed(h hist.Hist, woven api.Entry) (api.Op, []api.Entry, api.Errno) {
	numbered, wait := parts(h)
	// It can't fail: the history may be.
	size, _ := lists.Run(opsOf(numbered), len(h.Base))
	behind, rest, err := lists.Cross([]api.Op{woven.Op}, opsOf(wait), size)
	if err != api.OK {
		return api.Op{}, nil, err
	}
	wait = slices.Clone(wait)
	for i, op := range rest {
		wait[i].Op = op
	}
	return behind[0], wait, api.OK
}

// made tells a history with another number and other entries, in memory of its own.
func made(h hist.Hist, num int, entries ...[]api.Entry) hist.Hist {
	next := hist.Hist{
		Base:   append([]api.Cell(nil), h.Base...),
		Vector: append([]int(nil), h.Vector...),
		From:   h.From,
		Num:    num,
	}
	for _, entry := range slices.Concat(entries...) {
		next.List = append(next.List, own(entry))
	}
	return next
}

// opsOf tells the operations of entries.
func opsOf(l []api.Entry) []api.Op {
	var all []api.Op
	for _, entry := range l {
		all = append(all, entry.Op)
	}
	return all
}

// own tells an entry in memory of its own.
func own(entry api.Entry) api.Entry {
	entry.Op.Text = strings.Clone(entry.Op.Text)
	entry.Op.Spans = append([]api.Span(nil), entry.Op.Spans...)
	entry.Edit.Text = strings.Clone(entry.Edit.Text)
	return entry
}
