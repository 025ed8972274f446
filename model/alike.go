package model

import (
	"slices"

	"foolscap/api"
)

// AlikeNames tells whether two names are.
func AlikeNames(a, b api.Name) bool {
	return a.Site == b.Site && a.Seq == b.Seq
}

// SameSpans tells whether two lists of spans are, span by span.
func SameSpans(l, m []api.Span) bool {
	return slices.EqualFunc(l, m, func(a, b api.Span) bool { return a.From == b.From && a.Len == b.Len })
}

// Alike tells whether all fields of two operations are, one by one.
func Alike(a, b api.Op) bool {
	return AlikeNames(a.Name, b.Name) && a.Num == b.Num && a.Kind == b.Kind && a.At == b.At && a.Text == b.Text && SameSpans(a.Spans, b.Spans)
}

// AlikeAll tells whether two lists of operations are, one by one.
func AlikeAll(l, m []api.Op) bool {
	return slices.EqualFunc(l, m, Alike)
}

// Short is an operation with no more than can be told.
func Short(op api.Op) api.Op {
	op.Text = op.Text[:min(len(op.Text), 40)]
	op.Spans = op.Spans[:min(len(op.Spans), 9)]
	return op
}

// Shorts is a list of operations with no more than can be told.
func Shorts(l []api.Op) []api.Op {
	var all []api.Op
	for _, op := range l[:min(len(l), 9)] {
		all = append(all, Short(op))
	}
	return all
}

// Shared tells whether two lists have memory in common, their spare room too.
func Shared[T any](a, b []T) bool {
	a, b = a[:cap(a)], b[:cap(b)]
	for i := range a {
		for k := range b {
			if &a[i] == &b[k] {
				return true
			}
		}
	}
	return false
}
