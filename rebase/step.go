package rebase

import (
	"foolscap/api"
	"foolscap/hist"
	"foolscap/ops"
	"foolscap/vect"
)

// check tells what forbids a step, OK where nothing does; it may find out what the next ones need, too.
type check func() api.Errno

// round is checks that are asked one behind the other.
type round []check

// step goes along the checks of rounds, and tells the first error.
func step(rounds ...round) (err api.Errno) {
along:
	for _, checks := range rounds {
		for _, tell := range checks {
			if err = tell(); err != api.OK {
				break along
			}
		}
	}
	return err
}

// only tells OK where something is so, else an error.
func only(isSo bool, err api.Errno) api.Errno {
	if isSo {
		return api.OK
	}
	return err
}

// mayBe asks whether a history may be, and an edit.
func mayBe(h hist.Hist, e api.Edit) round {
	return round{
		func() api.Errno { return only(hist.May(h), api.ErrArg) },
		func() api.Errno { return only(ops.MayEdit(e), api.ErrArg) },
	}
}

// goesOn asks whether an edit is the next one of its site, made upon all of a history that may be, and whether no other site's are pending there.
func goesOn(h hist.Hist, e api.Edit) round {
	return round{
		func() api.Errno { return only(e.Context == h.Num, api.ErrOrder) },
		func() api.Errno {
			// It can't fail: the history may be.
			reach, _ := hist.Reach(h)
			return only(e.Name.Seq == vect.Count(reach, e.Name.Site)+1, api.ErrOrder)
		},
		func() api.Errno {
			// All that are pending are of one site.
			first, ok := firstPending(h)
			return only(!ok || first.Name.Site == e.Name.Site, api.ErrOrder)
		},
	}
}

// hasRoom asks whether one more entry may be in a history.
func hasRoom(h hist.Hist) check {
	return func() api.Errno { return only(len(h.List) < api.MaxList, api.ErrHistory) }
}
