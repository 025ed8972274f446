package ops

import (
	"foolscap/api"
	"foolscap/runes"
	"foolscap/spans"
)

// The kinds by their numbers, which are api's. The last one is the greatest that is read.
const (
	noKind = iota
	inserts
	deletes
)

// kind is all that hangs on what an operation, or an edit, does.
type kind interface {
	may(op api.Op, size int) bool // of a size, a name and a number that may be
	bestSize(op api.Op) int       // a size upon which it may be, if it may upon any
	adds(op api.Op) int
	parts(op *api.Op) []part // what stands behind the Kind
	mayEdit(e api.Edit) bool // of a place, a name and a Context that may be
	editParts(e *api.Edit) []part
}

// kindOf tells the kind that has a number.
func kindOf(n int) kind {
	switch n {
	case inserts:
		return insertion{}
	case deletes:
		return deletion{}
	}
	return neither{}
}

// insertion is the kind of what inserts a text.
type insertion struct{}

func (insertion) may(op api.Op, size int) bool {
	n := runes.Len(op.Text)
	return 0 <= op.At && op.At <= size && mayInsert(n) && len(op.Spans) == 0 && size+n <= api.MaxCells
}

// The least size in which At is a place leaves most room for the Text.
func (insertion) bestSize(op api.Op) int { return op.At }

func (insertion) adds(op api.Op) int {
	return max(runes.Len(op.Text), 0) // of what is no text, runes tells -1
}

func (insertion) parts(op *api.Op) []part {
	return []part{place(&op.At), row{&op.Text}}
}

func (insertion) mayEdit(e api.Edit) bool {
	return e.Len == 0 && mayInsert(runes.Len(e.Text))
}

func (insertion) editParts(e *api.Edit) []part {
	return []part{place(&e.At), row{&e.Text}}
}

// mayInsert tells whether a text of so many runes may be inserted.
func mayInsert(n int) bool {
	return 1 <= n && n <= api.MaxText
}

// deletion is the kind of what deletes places.
type deletion struct{}

func (deletion) may(op api.Op, size int) bool {
	return op.At == 0 && op.Text == "" && spans.May(op.Spans) && spans.Ahead(op.Spans, size) == spans.Total(op.Spans)
}

// What may be upon a lesser size may be upon a greater one.
func (deletion) bestSize(api.Op) int { return api.MaxCells }

func (deletion) adds(api.Op) int { return 0 }

func (deletion) parts(op *api.Op) []part {
	return []part{list{&op.Spans}}
}

func (deletion) mayEdit(e api.Edit) bool {
	return 1 <= e.Len && e.Len <= api.MaxCells && e.Text == ""
}

func (deletion) editParts(e *api.Edit) []part {
	return []part{place(&e.At), place(&e.Len)}
}

// neither is what has another number: it may not be, and nothing of it is read.
type neither struct{}

func (neither) may(api.Op, int) bool { return false }

func (neither) bestSize(api.Op) int { return 0 }

func (neither) adds(api.Op) int { return 0 }

func (neither) parts(*api.Op) []part { return nil }

func (neither) mayEdit(api.Edit) bool { return false }

func (neither) editParts(*api.Edit) []part { return nil }
