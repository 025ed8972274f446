package model_test

import (
	"slices"
	"testing"

	"foolscap/api"
	"foolscap/model"
)

// The chapters' own examples, so that the model isn't wrong where the layers are.
func TestExamples(t *testing.T) {
	// Chapter 8.
	at := func(p int) api.Op { return model.Insertion(model.Name(1, 1), 1, p, "ab") }
	if !model.MayUpon(at(5), 5) || model.MayUpon(at(6), 5) || model.MayUpon(at(0), model.MaxCells-1) || !model.MayUpon(at(0), model.MaxCells-2) {
		t.Error("what may be upon 5, and upon as many as there may be")
	}
	numbered, none := api.Op{Name: model.Name(2, 1), Num: 7}, api.Op{Name: model.Name(1, 1)}
	if !model.Before(numbered, none) || model.Before(none, numbered) {
		t.Error("the Num 7 is before 0")
	}
	// Chapter 9.
	one, two, del := at(2), model.Insertion(model.Name(2, 1), 2, 2, "c"), model.Deletion(model.Name(3, 1), 0, 1, 3)
	if a, b := model.Behind(two, one), model.Behind(one, two); a.At != 4 || b.At != 2 {
		t.Error(a, b)
	}
	if op := model.Behind(del, one); !model.SameSpans(op.Spans, model.List(1, 1, 4, 2)) {
		t.Error(op)
	}
	// Chapter 10.
	b := model.Insertion(model.Name(1, 1), 1, 2, "abc")
	if free, lost := model.Torn(del, b); !model.Hangs(del, b) || !model.SameSpans(free.Spans, model.List(1, 1)) || !model.SameSpans(lost, model.List(0, 2)) {
		t.Error(free, lost)
	}
	q := model.Insertion(model.Name(2, 1), 2, 4, "q")
	if free, lost := model.Torn(q, b); !model.Hangs(q, b) || free.At != 2 || !model.SameSpans(lost, model.List(2, 0)) {
		t.Error(free, lost)
	}
	// Chapter 12: what is deleted stays, and what is played on is another document.
	doc := model.Blank(2)
	want := []api.Cell{{R: '.', Gone: true}, {Name: model.Name(1, 1), R: 'a', Gone: true}, {Name: model.Name(1, 1), Off: 1, R: 'b'}, {Off: 1, R: '.'}}
	if got := model.Play(doc, at(1), model.Deletion(model.Name(2, 1), 2, 0, 2)); !slices.Equal(got, want) || !slices.Equal(doc, model.Blank(2)) {
		t.Error(got, doc)
	}
}
