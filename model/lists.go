package model

import (
	"slices"

	"foolscap/api"
)

// Run follows chapter 11's words: the size that a list leaves; false, if it may not be.
func Run(l []api.Op, size int) (int, bool) {
	if size < 0 || size > MaxCells {
		return 0, false
	}
	for i, op := range l {
		if !MayUpon(op, size) {
			return 0, false
		}
		for _, other := range l[:i] {
			if AlikeNames(op.Name, other.Name) {
				return 0, false
			}
		}
		size += Adds(op)
	}
	return size, true
}

// Bring follows chapter 11's words: the one at a place of a list is brought ahead to another place.
func Bring(l []api.Op, from, to, size int) ([]api.Op, api.Errno) {
	if _, ok := Run(l, size); !ok {
		return nil, api.ErrArg
	}
	if from < 0 || from >= len(l) || to < 0 || to > from {
		return nil, api.ErrRange
	}
	l = slices.Clone(l)
	for p := from; p > to; p-- {
		if Hangs(l[p], l[p-1]) {
			return nil, api.ErrLost
		}
		ahead, _ := Torn(l[p], l[p-1])
		l[p-1], l[p] = ahead, Behind(l[p-1], ahead)
	}
	return l, api.OK
}
