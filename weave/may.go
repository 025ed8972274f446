package weave

import (
	"foolscap/api"
	"foolscap/hist"
	"foolscap/ops"
	"foolscap/vect"
)

// ask tells what forbids that an edit is woven into a history, in the chapter's order; OK, if nothing does.
func ask(h hist.Hist, e api.Edit) api.Errno {
	// It fails of a history that may not be alone.
	reach, err := hist.Reach(h)
	switch {
	case err != api.OK || !ops.MayEdit(e):
		return api.ErrArg
	case hasPending(h):
		return api.ErrState
	case !fits(h, reach, e):
		return api.ErrOrder
	case h.Num == api.MaxNum:
		return api.ErrEnd
	}
	return api.OK
}

// hasPending tells whether an entry of a history that may be has no number: such stand behind all others.
func hasPending(h hist.Hist) bool {
	n := len(h.List)
	return n > 0 && h.List[n-1].Op.Num == 0
}

// fits tells whether an edit is the next one of its site, made when the history stood somewhere from From to Num, and not ahead of what its site did before.
func fits(h hist.Hist, reach []int, e api.Edit) bool {
	if e.Context < h.From || e.Context > h.Num || e.Name.Seq != vect.Count(reach, e.Name.Site)+1 {
		return false
	}
	for _, entry := range h.List {
		if entry.Edit.Name.Site == e.Name.Site && entry.Edit.Context > e.Context {
			return false
		}
	}
	return true
}
