package hists

import (
	"foolscap/api"
	"foolscap/hist"
	"foolscap/model"
)

// Local follows P15.1's words.
func Local(h hist.Hist, e api.Edit) (hist.Hist, api.Op, api.Errno) {
	if !May(h) || !model.MayEdit(e) {
		return hist.Hist{}, api.Op{}, api.ErrArg
	}
	if len(Late(h, e)) > 0 {
		return hist.Hist{}, api.Op{}, api.ErrOrder
	}
	op, err := upon(model.Play(h.Base, OpsOf(h.List)...), e, 0)
	if err != api.OK {
		return hist.Hist{}, api.Op{}, err
	}
	if len(h.List) == model.MaxList {
		return hist.Hist{}, api.Op{}, api.ErrHistory
	}
	h = Clone(h)
	h.List = append(h.List, api.Entry{Op: op, Edit: e})
	return h, op, api.OK
}

// Late tells which of P15.1's words of what goes on from a history don't hold of an edit, one by one.
func Late(h hist.Hist, e api.Edit) []string {
	var all []string
	if e.Context != h.Num {
		all = append(all, "its Context is Num")
	}
	if e.Name.Seq != CountOf(Reached(h), e.Name.Site)+1 {
		all = append(all, "its name is the next one")
	}
	for _, x := range h.List {
		if x.Op.Num == 0 && x.Op.Name.Site != e.Name.Site {
			return append(all, "no entry of another site is pending")
		}
	}
	return all
}

// Other follows P15.2's words.
func Other(h hist.Hist, e api.Edit) (hist.Hist, api.Op, api.Errno) {
	if !May(h) || !model.MayEdit(e) {
		return hist.Hist{}, api.Op{}, api.ErrArg
	}
	for _, x := range h.List {
		if x.Op.Num == 0 && model.AlikeNames(x.Op.Name, e.Name) {
			return hist.Hist{}, api.Op{}, api.ErrTwice
		}
	}
	next := Cut(h)
	woven, err := Weave(next, e)
	if err != api.OK {
		return hist.Hist{}, api.Op{}, err
	}
	if len(h.List) == model.MaxList {
		return hist.Hist{}, api.Op{}, api.ErrHistory
	}
	size, _ := model.Run(OpsOf(next.List), len(h.Base))
	pending := Clone(h).List[len(next.List):]
	next.Num++
	next.List = append(next.List, woven)
	op := woven.Op
	for _, x := range pending {
		x.Op, op = model.Behind(x.Op, op), model.Behind(op, x.Op)
		size += model.Adds(x.Op)
		if !model.MayUpon(op, size) {
			return hist.Hist{}, api.Op{}, api.ErrFull
		}
		next.List = append(next.List, x)
	}
	return next, op, api.OK
}

// Own follows P15.3's words.
func Own(h hist.Hist) (hist.Hist, api.Errno) {
	switch {
	case !May(h):
		return hist.Hist{}, api.ErrArg
	case PendingOf(h) == 0:
		return hist.Hist{}, api.ErrNone
	case h.Num == model.MaxNum:
		return hist.Hist{}, api.ErrEnd
	}
	h = Clone(h)
	h.Num++
	h.List[len(h.List)-PendingOf(h)].Op.Num = h.Num
	return h, api.OK
}

// Take follows P15.3's words; a history that may not be has no first pending entry.
func Take(h hist.Hist, e api.Edit) (hist.Hist, api.Op, bool, api.Errno) {
	if May(h) && PendingOf(h) > 0 {
		first := h.List[len(h.List)-PendingOf(h)]
		if model.AlikeNames(first.Op.Name, e.Name) {
			if !AlikeEdits(first.Edit, e) {
				return hist.Hist{}, api.Op{}, false, api.ErrTwice
			}
			next, err := Own(h)
			return next, api.Op{}, err == api.OK, err
		}
	}
	next, op, err := Other(h, e)
	return next, op, false, err
}
