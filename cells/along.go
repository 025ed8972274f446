package cells

import (
	"iter"

	"foolscap/api"
)

// begins goes along the blocks: which one, and the place at which it begins. A nil document has none.
func (d *Doc) begins() iter.Seq2[int, int] {
	return func(yield func(int, int) bool) {
		if d == nil {
			return
		}
		from := 0
		for k := range d.blocks {
			if !yield(k, from) {
				return
			}
			from += d.blocks[k].size()
		}
	}
}

// places goes along the places of the cells that are Gone, or of those that are live, but for the first few.
func (d *Doc) places(gone bool, few int) iter.Seq[int] {
	return func(yield func(int) bool) {
		skip := few
		for k, from := range d.begins() {
			b := &d.blocks[k]
			if n := b.of(gone); skip >= n {
				skip -= n
				continue
			}
			for at, c := range b.cells {
				switch {
				case c.Gone != gone:
				case skip > 0:
					skip--
				case !yield(from + at):
					return
				}
			}
		}
	}
}

// spots goes along the cells at places that the document has: the block of each, and where in it.
func (d *Doc) spots(l []api.Span) iter.Seq2[*block, int] {
	return func(yield func(*block, int) bool) {
		k, from := 0, 0
		for _, s := range l {
			for p := s.From; p < s.From+s.Len; p++ {
				for p >= from+d.blocks[k].size() {
					from += d.blocks[k].size()
					k++
				}
				if !yield(&d.blocks[k], p-from) {
					return
				}
			}
		}
	}
}

// gathered tells the first n of places that rise, as a list.
func gathered(places iter.Seq[int], n int) []api.Span {
	var l []api.Span
	for p := range places {
		if n == 0 {
			break
		}
		n--
		if k := len(l) - 1; k >= 0 && l[k].From+l[k].Len == p {
			l[k].Len++
		} else {
			l = append(l, api.Span{From: p, Len: 1})
		}
	}
	return l
}
