package rebase_test

import (
	"slices"
	"testing"
	"unsafe"

	"foolscap/api"
	"foolscap/hist"
	"foolscap/model/hists"
	"foolscap/rebase"
)

// ink writes texts into bytes that can be written over.
type ink struct {
	bytes [][]byte
	was   []string
}

// text tells a text that stands in bytes of its own.
func (i *ink) text(s string) string {
	if s == "" {
		return ""
	}
	b := []byte(s)
	i.bytes, i.was = append(i.bytes, b), append(i.was, s)
	return unsafe.String(&b[0], len(b))
}

// same tells whether all texts are as they were written.
func (i *ink) same() bool {
	for k, b := range i.bytes {
		if string(b) != i.was[k] {
			return false
		}
	}
	return true
}

// blot writes over all texts.
func (i *ink) blot() {
	for _, b := range i.bytes {
		for k := range b {
			b[k] = '#'
		}
	}
}

// steps are all that is told of a history and an edit; what is told goes into x.
func steps(x *hists.Told, h hist.Hist, e api.Edit) []step {
	got, _ := calls(h, e)
	var own step
	own.next, own.err = rebase.Own(h)
	all := append(got[:], own)
	for _, s := range all {
		x.Hist(s.next)
		x.Spans = append(x.Spans, s.op.Spans)
	}
	return all
}

// known is a history in which much has a number and much is pending, of the site 1, and edits of which each call takes some.
func known(t *testing.T) (hist.Hist, []api.Edit) {
	t.Helper()
	h := taken(t, waiting(t), writes(name(2, 1), 0, 1, "pq"), deletes(name(3, 1), 0, 1, 2))
	return h, []api.Edit{
		writes(name(1, 4), 2, 2, "w\u20acw"), deletes(name(1, 4), 2, 0, 3),
		writes(name(2, 2), 1, 2, "mine"), deletes(name(2, 2), 1, 1, 3), deletes(name(4, 1), 0, 0, 3), writes(name(4, 1), 2, 0, "four"),
		h.List[2].Edit,
	}
}

// Rule 5: what is handed in isn't changed, its spare room neither; nor is it kept: whatever is written over it, what was told stays.
func TestHandedIn(t *testing.T) {
	from, edits := known(t)
	for _, e := range edits {
		var i, other ink
		want := steps(&hists.Told{}, hists.RoomyHist(other.text, from), e)
		h := hists.RoomyHist(i.text, from)
		was := hists.Room(h)
		mine := e
		mine.Text = i.text(e.Text)
		got := steps(&hists.Told{}, h, mine)
		if !hists.Same(hists.Room(h), was) || !i.same() {
			t.Fatal("what was handed in is changed")
		}
		var x hists.Told
		x.Hist(h)
		x.Blot()
		i.blot()
		if !slices.EqualFunc(got, want, step.same) {
			t.Errorf("%v: what was told is changed", e)
		}
	}
}

// Rule 5: what is told shares no memory with what was handed in, nor with another answer; whatever is written over it, the history stays.
func TestTold(t *testing.T) {
	from, edits := known(t)
	var i ink
	h := hists.RoomyHist(i.text, from)
	was := clone(h)
	ok := 0
	for _, e := range edits {
		var x hists.Told
		e.Text = i.text(e.Text)
		first := steps(&x, h, e)
		again := steps(&x, h, e)
		x.Hist(h)
		if x.AnyShared() {
			t.Errorf("%v: memory is shared", e)
		}
		if sharedTexts(textsOf(h, e, append(first, again...))) {
			t.Errorf("%v: texts are shared", e)
		}
		for _, s := range first {
			if s.err == api.OK {
				ok++
			}
		}
		x = hists.Told{}
		steps(&x, h, e)
		x.Blot()
		if !hists.Same(h, was) {
			t.Fatalf("%v: the history is changed by way of what was told", e)
		}
	}
	if ok < 2*len(edits) {
		t.Error("so few were taken in:", ok)
	}
}

// Rule 5: without anything pending, and of the only one pending, too.
func TestToldOfFew(t *testing.T) {
	for _, x := range []struct {
		h hist.Hist
		e api.Edit
	}{
		{abc(), writes(name(1, 1), 0, 1, "word")}, {abc(), deletes(name(1, 1), 0, 1, 2)},
		{local(t, abc(), writes(name(1, 1), 0, 1, "word")), writes(name(2, 1), 0, 1, "other")}, {local(t, abc(), writes(name(1, 1), 0, 1, "word")), writes(name(1, 1), 0, 1, "word")},
		{local(t, abc(), deletes(name(1, 1), 0, 1, 2)), deletes(name(2, 1), 0, 1, 2)}, {local(t, abc(), deletes(name(1, 1), 0, 1, 2)), deletes(name(1, 1), 0, 1, 2)},
	} {
		var i ink
		h := hists.RoomyHist(i.text, x.h)
		x.e.Text = i.text(x.e.Text)
		var told hists.Told
		l := append(steps(&told, h, x.e), steps(&told, h, x.e)...)
		told.Hist(h)
		if told.AnyShared() || sharedTexts(textsOf(h, x.e, l)) {
			t.Errorf("%v of %v: memory is shared", x.e, x.h)
		}
	}
}

// textsOf are all texts of a history and an edit, and of what was told of them.
func textsOf(h hist.Hist, e api.Edit, l []step) []string {
	all := []string{e.Text}
	of := []hist.Hist{h}
	for _, s := range l {
		of, all = append(of, s.next), append(all, s.op.Text)
	}
	for _, h := range of {
		for _, x := range h.List {
			all = append(all, x.Op.Text, x.Edit.Text)
		}
	}
	return slices.DeleteFunc(all, func(s string) bool { return s == "" })
}

// sharedTexts tells whether two of some texts stand in one memory; such of one byte may, as the language keeps these.
func sharedTexts(l []string) bool {
	for i, s := range l {
		for _, u := range l[:i] {
			if len(s) > 1 && unsafe.StringData(s) == unsafe.StringData(u) {
				return true
			}
		}
	}
	return false
}

// Rule 4: nil and empty are one and the same.
func TestNilIsEmpty(t *testing.T) {
	del := deletion(name(1, 1), 0)
	del.Spans = []api.Span{}
	for _, h := range []hist.Hist{
		{}, {Base: []api.Cell{}, Vector: []int{}, List: []api.Entry{}}, {List: entries(deletion(name(1, 1), 0))}, {Base: []api.Cell{}, Vector: []int{}, List: entries(del)},
	} {
		wait := len(h.List)
		if errs := holds(t, h, writes(name(1, wait+1), 0, 0, "w")); errs[0] != api.OK {
			t.Error(h, errs)
		}
		if errs := holds(t, h, writes(name(2, 1), 0, 0, "w")); errs[1] != api.OK || errs[2] != api.OK {
			t.Error(h, errs)
		}
		if errs := holds(t, h, deletes(name(2, 1), 0, 0, 1)); errs[1] != api.ErrRange {
			t.Error(h, errs)
		}
		if wait > 0 {
			if errs := holds(t, h, h.List[0].Edit); errs[2] != api.OK {
				t.Error(h, errs)
			}
		}
	}
}
