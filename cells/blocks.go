package cells

import (
	"slices"

	"foolscap/api"
)

// most is how many cells a block may have.
const most = 256

// count is how many cells are live, and how many are Gone.
type count struct {
	live, gone int
}

// size tells how many there are.
func (c count) size() int {
	return c.live + c.gone
}

// of tells how many are Gone, or how many are live.
func (c count) of(gone bool) int {
	if gone {
		return c.gone
	}
	return c.live
}

// add counts another count's cells, too.
func (c *count) add(other count) {
	c.live += other.live
	c.gone += other.gone
}

// block is a run of a document's cells, and their count.
type block struct {
	count
	cells []api.Cell
}

// counted tells the count of cells.
func counted(l []api.Cell) count {
	var c count
	for _, cell := range l {
		if cell.Gone {
			c.gone++
		} else {
			c.live++
		}
	}
	return c
}

// laid lays cells in blocks, which are but half full, so that there is room in each.
func laid(l []api.Cell) []block {
	var all []block
	for part := range slices.Chunk(l, most/2) {
		all = append(all, block{counted(part), slices.Clone(part)})
	}
	return all
}

// insert lets cells stand ahead of one of the block's.
func (b *block) insert(at int, l []api.Cell) {
	b.cells = slices.Insert(b.cells, at, l...)
	b.add(counted(l))
}

// remove makes a cell Gone.
func (b *block) remove(at int) {
	if c := &b.cells[at]; !c.Gone {
		c.Gone = true
		b.add(count{live: -1, gone: 1})
	}
}

// seen tells how many of the first n cells are live; there may be fewer.
func (b *block) seen(n int) int {
	if n >= b.size() {
		return b.live
	}
	return counted(b.cells[:n]).live
}

// find tells where the cell of a name and an Off stands; -1 if it isn't there.
func (b *block) find(n api.Name, off int) int {
	return slices.IndexFunc(b.cells, func(c api.Cell) bool { return c.Name == n && c.Off == off })
}

// whole tells the count of all cells.
func (d *Doc) whole() count {
	var c count
	for k := range d.begins() {
		c.add(d.blocks[k].count)
	}
	return c
}

// put lets cells stand ahead of a place. Where two blocks meet, they come to be the first one's.
func (d *Doc) put(p int, l []api.Cell) {
	for k, from := range d.begins() {
		b := &d.blocks[k]
		if p > from+b.size() {
			continue
		}
		b.insert(p-from, l)
		if b.size() > most {
			d.blocks = slices.Replace(d.blocks, k, k+1, laid(b.cells)...)
		}
		return
	}
	// There was no block.
	d.blocks = laid(l)
}

// remove makes the cells at places Gone.
func (d *Doc) remove(l []api.Span) {
	for b, at := range d.spots(l) {
		b.remove(at)
	}
}

// drop takes the cells at places away. What is left is laid in blocks anew, so that none stays that has but few.
func (d *Doc) drop(l []api.Span) {
	all := d.Cells()
	left := make([]api.Cell, 0, len(all))
	from := 0
	for _, s := range l {
		left = append(left, all[from:s.From]...)
		from = s.From + s.Len
		d.forget(all[s.From:from])
	}
	d.blocks = laid(append(left, all[from:]...))
}
