package hist

import (
	"foolscap/api"
	"foolscap/cells"
	"foolscap/lists"
	"foolscap/ops"
	"foolscap/vect"
)

// holds tells whether all conditions hold of a history. Each is asked of what those ahead of it let through.
func holds(h Hist, conditions ...func(Hist) bool) bool {
	for _, isSo := range conditions {
		if !isSo(h) {
			return false
		}
	}
	return true
}

// mayNumbers tells whether there may be such a From and such a Num.
func (h Hist) mayNumbers() bool {
	return 0 <= h.From && h.From <= h.Num && h.Num <= api.MaxNum
}

// mayVector tells whether Vector may be, and has the names of Base.
func (h Hist) mayVector() bool {
	if !vect.May(h.Vector) {
		return false
	}
	for _, c := range h.Base {
		if !vect.Has(h.Vector, c.Name) {
			return false
		}
	}
	return true
}

// mayEdits tells whether there are no more entries than may be, each with an edit that may be, and is its operation's.
func (h Hist) mayEdits() bool {
	if len(h.List) > api.MaxList {
		return false
	}
	for _, e := range h.List {
		if !ops.MayEdit(e.Edit) || e.Edit.Name != e.Op.Name || e.Edit.Kind != e.Op.Kind {
			return false
		}
	}
	return true
}

// isNumberedFirst tells whether the entries ahead of the first that is pending have numbers that rise, above From and up to Num.
func (h Hist) isNumberedFirst() bool {
	numbered, _ := h.parts()
	last := h.From
	for _, e := range numbered {
		if e.Op.Num <= last || e.Op.Num > h.Num {
			return false
		}
		last = e.Op.Num
	}
	return true
}

// isPendingOfOneSite tells whether, from the first entry that is pending on, all are, and of its site.
func (h Hist) isPendingOfOneSite() bool {
	_, pending := h.parts()
	for _, e := range pending {
		if !isPending(e) || e.Op.Name.Site != pending[0].Op.Name.Site {
			return false
		}
	}
	return true
}

// goesOnFromVector tells whether each entry's name is the next one of its site.
func (h Hist) goesOnFromVector() bool {
	_, err := h.reach()
	return err == api.OK
}

// mayOps tells whether the operations may be as a list.
func (h Hist) mayOps() bool {
	_, ok := lists.Run(h.ops(), len(h.Base))
	return ok
}

// mayBase tells whether a document of Base may be.
func (h Hist) mayBase() bool {
	_, err := cells.New(h.Base)
	return err == api.OK
}
