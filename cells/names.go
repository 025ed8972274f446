package cells

import (
	"foolscap/api"
	"foolscap/runes"
	"foolscap/vect"
)

// offs is a set of Offs, a bit for each.
type offs struct {
	bits [(api.MaxText + 63) / 64]uint64
}

// has tells whether an Off is one of the set; what is no Off is not.
func (o offs) has(off int) bool {
	return mayOff(off) && o.bits[off/64]>>(off%64)&1 == 1
}

// with tells the set with an Off.
func (o offs) with(off int) offs {
	o.bits[off/64] |= 1 << (off % 64)
	return o
}

// without tells the set without an Off.
func (o offs) without(off int) offs {
	o.bits[off/64] &^= 1 << (off % 64)
	return o
}

// know takes in the names and Offs of cells; it tells false of one that is known already.
func (d *Doc) know(l []api.Cell) bool {
	if d.names == nil {
		d.names = map[api.Name]offs{}
	}
	for _, c := range l {
		known := d.names[c.Name]
		if known.has(c.Off) {
			return false
		}
		d.names[c.Name] = known.with(c.Off)
	}
	return true
}

// forget takes the names and Offs of cells out. A name without any cell isn't kept, as it may come again.
func (d *Doc) forget(l []api.Cell) {
	for _, c := range l {
		left := d.names[c.Name].without(c.Off)
		if left == (offs{}) {
			delete(d.names, c.Name)
			continue
		}
		d.names[c.Name] = left
	}
}

// may tells whether each of some cells may be.
func may(l []api.Cell) bool {
	all := make([]rune, 0, len(l))
	for _, c := range l {
		if !vect.MayName(c.Name) || !mayOff(c.Off) {
			return false
		}
		all = append(all, c.R)
	}
	_, err := runes.Join(all)
	return err == api.OK
}

// mayOff tells whether a cell may have an Off.
func mayOff(off int) bool {
	return 0 <= off && off < api.MaxText
}

// cellsOf tells the cells that an insertion inserts.
func cellsOf(op api.Op) []api.Cell {
	// It can't fail: an operation that may be has a text.
	l, _ := runes.Split(op.Text)
	all := make([]api.Cell, len(l))
	for i, r := range l {
		all[i] = api.Cell{Name: op.Name, Off: i, R: r}
	}
	return all
}
