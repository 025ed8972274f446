package weave_test

import (
	"slices"
	"testing"
	"unsafe"

	"foolscap/api"
	"foolscap/hist"
	"foolscap/model/hists"
	"foolscap/weave"
)

// ink writes texts into bytes that can be written over.
type ink struct {
	bytes [][]byte
	was   []string
}

// text tells a text that stands in bytes of its own.
func (i *ink) text(s string) string {
	if s == "" {
		return ""
	}
	b := []byte(s)
	i.bytes, i.was = append(i.bytes, b), append(i.was, s)
	return unsafe.String(&b[0], len(b))
}

// same tells whether all texts are as they were written.
func (i *ink) same() bool {
	for k, b := range i.bytes {
		if string(b) != i.was[k] {
			return false
		}
	}
	return true
}

// blot writes over all texts.
func (i *ink) blot() {
	for _, b := range i.bytes {
		for k := range b {
			b[k] = '#'
		}
	}
}

// answers is all that is told of an edit in a history.
type answers struct {
	known, others []api.Op
	cells         []api.Cell
	form          api.Op
	entry         api.Entry
}

// ask asks all of an edit that can be woven; what is told goes into x.
func ask(t *testing.T, x *hists.Told, h hist.Hist, e api.Edit) answers {
	t.Helper()
	var a answers
	var errs [4]api.Errno
	var d interface{ Cells() []api.Cell }
	a.known, a.others, errs[0] = weave.Split(h, e)
	context, err := weave.Context(h, e)
	d, errs[1] = context, err
	a.form, errs[2] = weave.Form(h, e)
	a.entry, errs[3] = weave.Weave(h, e)
	if errs != [4]api.Errno{} {
		t.Fatal(errs)
	}
	a.cells = d.Cells()
	x.List(a.known)
	x.List(a.others)
	x.Cells = append(x.Cells, a.cells)
	x.Spans = append(x.Spans, a.form.Spans, a.entry.Op.Spans)
	return a
}

// sameAnswers tells whether all that was told is.
func sameAnswers(a, b answers) bool {
	return alikeAll(a.known, b.known) && alikeAll(a.others, b.others) && slices.Equal(a.cells, b.cells) && alike(a.form, b.form) && sameEntry(a.entry, b.entry)
}

// weavable are edits that can be woven into what is written: of such as know nothing, something, and all.
func weavable() []api.Edit {
	return []api.Edit{
		writes(name(1, 3), 1, 5, "w\u20acw"), deletes(name(1, 3), 1, 2, 4), writes(name(2, 3), 1, 2, "mine"), deletes(name(2, 3), 1, 1, 3),
		writes(name(3, 1), 0, 1, "w"), deletes(name(3, 1), 0, 0, 3), writes(name(3, 1), 4, 5, "w"), deletes(name(3, 1), 4, 0, 5),
	}
}

// deep is a history in memory of its own, its texts too.
func deep(h hist.Hist) hist.Hist {
	var i ink
	return hists.RoomyHist(i.text, h)
}

// Rule 5: what is handed in isn't changed, its spare room neither; nor is it kept: whatever is written over it, what was told stays.
func TestHandedIn(t *testing.T) {
	for _, e := range weavable() {
		var i ink
		h := hists.RoomyHist(i.text, written(t))
		was := hists.Room(h)
		want := ask(t, &hists.Told{}, deep(h), e)
		mine := e
		mine.Text = i.text(e.Text)
		got := ask(t, &hists.Told{}, h, mine)
		d, err := weave.Context(h, mine)
		if !hists.Same(hists.Room(h), was) || !i.same() || err != api.OK {
			t.Fatal("what was handed in is changed")
		}
		var x hists.Told
		x.Hist(h)
		x.Blot()
		i.blot()
		if !sameAnswers(got, want) || !slices.Equal(d.Cells(), want.cells) {
			t.Errorf("%v: what was told is changed", e)
		}
	}
}

// Rule 5: what is told shares no memory with what was handed in, nor with another answer; whatever is written over it, the history stays.
func TestTold(t *testing.T) {
	for _, e := range weavable() {
		h := written(t)
		was := hists.Clone(h)
		var x hists.Told
		first := ask(t, &x, h, e)
		again := ask(t, &x, h, e)
		x.Hist(h)
		if x.AnyShared() {
			t.Errorf("%v: memory is shared", e)
		}
		for i, l := range [][]string{textsOf(h, first), textsOf(h, again)} {
			if sharedTexts(l) {
				t.Errorf("%v, %d: texts are shared", e, i)
			}
		}
		x = hists.Told{}
		ask(t, &x, h, e)
		x.Blot()
		if !hists.Same(h, was) {
			t.Errorf("%v: the history is changed by way of what was told", e)
		}
	}
}

// textsOf are all texts of a history, and of what was told of it.
func textsOf(h hist.Hist, a answers) []string {
	l := []string{a.form.Text, a.entry.Op.Text, a.entry.Edit.Text}
	for _, op := range slices.Concat(a.known, a.others) {
		l = append(l, op.Text)
	}
	for _, x := range h.List {
		l = append(l, x.Op.Text, x.Edit.Text)
	}
	return slices.DeleteFunc(l, func(s string) bool { return s == "" })
}

// sharedTexts tells whether two of some texts stand in one memory; such of one byte may, as the language keeps these.
func sharedTexts(l []string) bool {
	for i, s := range l {
		for _, u := range l[:i] {
			if len(s) > 1 && unsafe.StringData(s) == unsafe.StringData(u) {
				return true
			}
		}
	}
	return false
}

// Rule 5: a document that is told is its own.
func TestContextOwn(t *testing.T) {
	h := written(t)
	for _, e := range weavable() {
		d, _ := weave.Context(h, e)
		other, _ := weave.Context(h, e)
		want := other.Cells()
		if d == other {
			t.Fatal("one document")
		}
		if err := d.Do(insertion(name(9, 9), 0, 0, "nine")); err != api.OK {
			t.Fatal(err)
		}
		if err := d.Do(deletion(name(9, 10), 0, 0, d.Size())); err != api.OK {
			t.Fatal(err)
		}
		if err := d.Drop(d.Gone()); err != api.OK || d.Size() != 0 {
			t.Fatal(err)
		}
		if !slices.Equal(other.Cells(), want) {
			t.Error("the other document is changed")
		}
		holds(t, h, e)
	}
}

// P14.1: the context goes on as layer 12's: it knows the names of what the edit knows, and no others.
func TestContextGoesOn(t *testing.T) {
	h := written(t)
	for _, e := range weavable() {
		for _, x := range h.List {
			d, _ := weave.Context(h, e)
			want := api.OK
			if hists.Knows(e, x) && x.Op.Kind == api.Ins {
				want = api.ErrTwice
			}
			op := x.Op
			op.At = 0
			if op.Kind == api.Ins && d.Do(op) != want {
				t.Errorf("%v in the context of %v: not %d", op, e, want)
			}
		}
	}
}

// Rule 4: nil and empty are one and the same.
func TestNilIsEmpty(t *testing.T) {
	del := deletion(name(1, 1), 1)
	del.Spans = []api.Span{}
	for _, h := range []hist.Hist{
		{}, {Base: []api.Cell{}, Vector: []int{}, List: []api.Entry{}}, {Num: 1, List: entries(deletion(name(1, 1), 1))}, {Base: []api.Cell{}, Vector: []int{}, Num: 1, List: entries(del)},
	} {
		for context := range h.Num + 1 {
			x, err := holds(t, h, writes(name(2, 1), context, 0, "w"))
			if err != api.OK || !alike(x.Op, insertion(name(2, 1), h.Num+1, 0, "w")) {
				t.Error(h, x, err)
			}
			if _, err := holds(t, h, deletes(name(2, 1), context, 0, 1)); err != api.ErrRange {
				t.Error(h, err)
			}
		}
	}
}
