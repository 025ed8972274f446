package caret

import (
	"foolscap/api"
	"foolscap/incl"
	"foolscap/spans"
)

// isSite tells whether a number is a site's.
func isSite(n int) bool {
	return 1 <= n && n <= api.MaxSites
}

// isIn tells whether a number is from 0 to most.
func isIn(n, most int) bool {
	return 0 <= n && n <= most
}

// both tells a mark with both places gone one way, so that neither goes another way than the other: the way is a method of what they go through. It tells the first error.
func both[T any](m Mark, through T, way func(T, int) (int, api.Errno)) (Mark, api.Errno) {
	places := [2]int{m.At, m.To}
	for i := range len(places) {
		p, err := way(through, places[i])
		if err != api.OK {
			return Mark{}, err
		}
		places[i] = p
	}
	return Mark{Site: m.Site, At: places[0], To: places[1]}, api.OK
}

// deed is an operation that is carried out upon a size; where it inserts at a place, the place stays or doesn't.
type deed struct {
	op    api.Op
	size  int
	stays bool
}

// place tells where a place is behind the deed; an error, if that may not be.
func (d deed) place(p int) (int, api.Errno) {
	return incl.Point(p, d.op, d.size, d.stays)
}

// begin tells where an operation begins. What inserts has no Spans; what deletes is at 0, also if it deletes nothing.
func begin(op api.Op) int {
	if len(op.Spans) > 0 {
		return op.Spans[0].From
	}
	return op.At
}

// dropped is the places of cells that are dropped.
type dropped []api.Span

// place tells where a place is without them.
func (l dropped) place(p int) (int, api.Errno) {
	return p - spans.Ahead(l, p), api.OK
}
