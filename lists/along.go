package lists

import (
	"slices"
	"strings"

	"foolscap/api"
	"foolscap/incl"
	"foolscap/ops"
)

// fold goes along a list, each step with what the one ahead of it told, up to the first that tells an error. It tells what the last step did.
func fold[T, S any](l []T, told S, step func(S, T) (S, api.Errno)) (S, api.Errno) {
	err := api.OK
	for i := range len(l) {
		told, err = step(told, l[i])
		if err != api.OK {
			break
		}
	}
	return told, err
}

// spot is an operation of a list, its place there, and the size that those ahead of it leave.
type spot struct {
	api.Op
	place, size int
}

// spots tells the spots of a list that may be.
func spots(l []api.Op, size int) []spot {
	along := make([]spot, len(l))
	for i := range len(l) {
		along[i] = spot{l[i], i, size}
		size += ops.Adds(l[i])
	}
	return along
}

// backward turns spots round.
func backward(along []spot) []spot {
	slices.Reverse(along)
	return along
}

// carryOut tells the size that an operation leaves.
func carryOut(size int, op api.Op) (int, api.Errno) {
	if !ops.May(op, size) {
		return 0, api.ErrArg
	}
	return size + ops.Adds(op), api.OK
}

// meetAll tells an operation as it is behind a list, and the list as it is behind that: a crossing of a list of one.
func meetAll(a api.Op, l []api.Op, size int) (api.Op, []api.Op, api.Errno) {
	var behindA []api.Op
	a, err := fold(spots(l, size), own(a), func(a api.Op, b spot) (api.Op, api.Errno) {
		one, other, err := incl.Meet(a, b.Op, b.size)
		behindA = append(behindA, other)
		return one, err
	})
	return a, behindA, err
}

// may tells whether a list may be upon a size.
func may(l []api.Op, size int) bool {
	_, ok := Run(l, size)
	return ok
}

// unlike tells whether no two operations of lists are of one name.
func unlike(lists ...[]api.Op) bool {
	all := slices.Concat(lists...)
	names := map[api.Name]struct{}{}
	for _, op := range all {
		names[op.Name] = struct{}{}
	}
	return len(names) == len(all)
}

// own tells an operation in memory of its own.
func own(op api.Op) api.Op {
	op.Text = strings.Clone(op.Text)
	op.Spans = append([]api.Span(nil), op.Spans...)
	return op
}

// ownAll tells a list in memory of its own.
func ownAll(l []api.Op) []api.Op {
	var all []api.Op
	for _, op := range l {
		all = append(all, own(op))
	}
	return all
}
