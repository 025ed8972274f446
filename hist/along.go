package hist

import (
	"iter"
	"slices"

	"foolscap/api"
	"foolscap/cells"
	"foolscap/vect"
)

// isPending tells whether an entry has no number yet.
func isPending(e api.Entry) bool {
	return e.Op.Num == 0
}

// parts tells the entries ahead of the first that is pending, and those from it on.
func (h Hist) parts() (numbered, pending []api.Entry) {
	i := slices.IndexFunc(h.List, isPending)
	if i < 0 {
		i = len(h.List)
	}
	return h.List[:i], h.List[i:]
}

// ops tells the operations of the entries; their spans are the history's own.
func (h Hist) ops() []api.Op {
	l := make([]api.Op, len(h.List))
	for i, e := range h.List {
		l[i] = e.Op
	}
	return l
}

// reach tells Vector, raised by the entries' names, in memory of its own; it fails where one isn't the next of its site.
func (h Hist) reach() ([]int, api.Errno) {
	v := append([]int(nil), h.Vector...)
	for _, e := range h.List {
		raised, err := vect.Raise(v, e.Op.Name)
		if err != api.OK {
			return nil, err
		}
		v = raised
	}
	return v, api.OK
}

// documents goes along the documents of a history that may be: behind how many entries, and the document, which is the next one's too as soon as that is gone on to.
func (h Hist) documents() iter.Seq2[int, *cells.Doc] {
	return func(yield func(int, *cells.Doc) bool) {
		// Neither New nor Do can fail.
		d, _ := cells.New(h.Base)
		for k, e := range h.List {
			if !yield(k, d) {
				return
			}
			d.Do(e.Op)
		}
		yield(len(h.List), d)
	}
}
