package weave

import (
	"strings"

	"foolscap/api"
	"foolscap/cells"
	"foolscap/ops"
)

// deed is what an edit asks for, of what is seen.
type deed interface {
	// kind tells the kind of operation that it comes to be.
	kind() int
}

// insertion is the deed of a text that comes to stand ahead of a live cell.
type insertion struct {
	at   int
	text string
}

// deletion is the deed of so many live cells, from one on.
type deletion struct {
	at, long int
}

func (insertion) kind() int { return api.Ins }
func (deletion) kind() int  { return api.Del }

// deedOf tells what an edit that may be asks for.
func deedOf(e api.Edit) deed {
	if e.Kind == api.Ins {
		return insertion{e.At, e.Text}
	}
	return deletion{e.At, e.Len}
}

// behind tells the document that operations leave of cells.
func behind(base []api.Cell, l []api.Op) *cells.Doc {
	// Neither New nor Do can fail: the history may be, and so may what is transposed of it.
	d, _ := cells.New(base)
	for _, op := range l {
		d.Do(op)
	}
	return d
}

// upon tells the operation that an edit comes to be upon its context, with a number.
func upon(context *cells.Doc, e api.Edit, num int) (api.Op, api.Errno) {
	op, err := done(context, deedOf(e))
	if err != api.OK {
		return api.Op{}, err
	}
	op.Name, op.Num = e.Name, num
	if !ops.May(op, context.Size()) {
		return api.Op{}, api.ErrArg
	}
	return op, api.OK
}

// done tells the operation that a deed comes to be upon a document, that has no name yet.
func done(d *cells.Doc, what deed) (op api.Op, err api.Errno) {
	op.Kind = what.kind()
	switch what := what.(type) {
	case insertion:
		op.Text = strings.Clone(what.text)
		op.At, err = d.Gap(what.at)
	case deletion:
		op.Spans, err = d.Run(what.at, what.long)
	}
	return op, err
}
