package spans

import (
	"iter"

	"foolscap/api"
)

// edge is where a list begins to have places, or where it has them no more.
type edge struct {
	at     int
	begins bool
}

// side is one of two lists on a walk.
type side struct {
	ahead []edge
	in    bool // whether it has the places from the edge on that was passed last
}

// edges goes along the edges of a list, and tells of each whether a span begins there.
func edges(l []api.Span) iter.Seq2[int, bool] {
	return func(yield func(int, bool) bool) {
		for _, s := range l {
			if !yield(s.From, true) || !yield(end(s), false) {
				return
			}
		}
	}
}

// walk goes along the edges of two lists that may be, and tells the places that are wanted, by whether the one has them and whether the other has. What neither has can't be wanted.
func walk(a, b []api.Span, wanted func(inA, inB bool) bool) []api.Span {
	var l []api.Span
	one, other := begin(a), begin(b)
	for from := 0; len(one.ahead)+len(other.ahead) > 0; {
		at := min(one.next(), other.next())
		if wanted(one.in, other.in) {
			l = put(l, from, at)
		}
		one.pass(at)
		other.pass(at)
		from = at
	}
	return l
}

// begin makes a side of a list, ahead of all its edges. They are gathered, as two iterators can't be gone along by turns.
func begin(l []api.Span) side {
	ahead := make([]edge, 0, 2*len(l))
	for at, begins := range edges(l) {
		ahead = append(ahead, edge{at, begins})
	}
	return side{ahead: ahead}
}

// next tells where the next edge is; behind the last one a place beyond all.
func (s *side) next() int {
	if len(s.ahead) == 0 {
		return api.MaxCells + 1
	}
	return s.ahead[0].at
}

// pass passes the next edge, if it is there.
func (s *side) pass(at int) {
	if s.next() == at {
		s.in = s.ahead[0].begins
		s.ahead = s.ahead[1:]
	}
}

// lay lays spans that stand in order behind a list, each moved by n.
func lay(l, behind []api.Span, n int) []api.Span {
	for _, s := range behind {
		l = put(l, s.From+n, end(s)+n)
	}
	return l
}

// put lays the places from one on, up to an end, into a list in which no span begins behind that one. What touches, or has places in common, comes to be one span.
func put(l []api.Span, from, to int) []api.Span {
	if from == to {
		return l
	}
	if k := len(l) - 1; k >= 0 && from <= end(l[k]) {
		l[k].Len = max(end(l[k]), to) - l[k].From
		return l
	}
	return append(l, api.Span{From: from, Len: to - from})
}

// end tells the place behind a span.
func end(s api.Span) int {
	return s.From + s.Len
}
