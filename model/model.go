// Package model says again, in the plainest way, what the chapters say of operations upon documents, of edits and lists. It is for the tests alone, which hold what the layers answer against it; it calls none of them.
package model

import (
	"math"
	"unicode/utf8"

	"foolscap/api"
)

// The limits, as the chapters write them out.
const (
	MaxText  = 200
	MaxCells = 20000
	MaxSites = 16
	MaxNum   = 1099511627776
	MaxList  = 400
)

// RunesOf tells how many runes a text has, -1 of what is none.
func RunesOf(s string) int {
	if !utf8.ValidString(s) {
		return -1
	}
	return utf8.RuneCountInString(s)
}

// With lays a place behind the others of a list of spans, that is chapter 7's.
func With(l []api.Span, p int) []api.Span {
	if k := len(l) - 1; k >= 0 && l[k].From+l[k].Len == p {
		l[k].Len++
		return l
	}
	return append(l, api.Span{From: p, Len: 1})
}

// Places goes along the places of spans.
func Places(l []api.Span) func(yield func(int) bool) {
	return func(yield func(int) bool) {
		for _, s := range l {
			for p := range s.Len {
				if !yield(s.From + p) {
					return
				}
			}
		}
	}
}

// Opened follows chapter 7's words, place by place: spans, opened at a point by n.
func Opened(l []api.Span, at, n int) []api.Span {
	var m []api.Span
	for p := range Places(l) {
		if p >= at {
			p += n
		}
		m = With(m, p)
	}
	return m
}

// endOf tells where a list of spans ends; far behind all, if it may not be by chapter 7's words.
func endOf(l []api.Span) int {
	at := -1
	for _, s := range l {
		if s.From <= at || s.Len < 1 || s.From >= MaxCells || s.Len > MaxCells-s.From {
			return math.MaxInt
		}
		at = s.From + s.Len
	}
	return max(at, 0)
}

// MayName follows chapter 6's words.
func MayName(n api.Name) bool {
	return n.Site >= 1 && n.Site <= MaxSites && n.Seq >= 1 && n.Seq <= MaxNum
}

// MayVector follows chapter 6's words.
func MayVector(v []int) bool {
	for _, n := range v {
		if n < 0 || n > MaxNum {
			return false
		}
	}
	return len(v) <= MaxSites && (len(v) == 0 || v[len(v)-1] != 0)
}

// MayEdit follows chapter 8's words.
func MayEdit(e api.Edit) bool {
	if !MayName(e.Name) || e.Context < 0 || e.Context > MaxNum || e.At < 0 || e.At > MaxCells {
		return false
	}
	switch e.Kind {
	case 1:
		long := RunesOf(e.Text)
		return e.Len == 0 && long >= 1 && long <= MaxText
	case 2:
		return e.Len >= 1 && e.Len <= MaxCells && e.Text == ""
	}
	return false
}

// MayUpon follows chapter 8's words.
func MayUpon(op api.Op, size int) bool {
	if size < 0 || size > MaxCells || !MayName(op.Name) || op.Num < 0 || op.Num > MaxNum {
		return false
	}
	switch op.Kind {
	case 1:
		long := RunesOf(op.Text)
		return op.At >= 0 && op.At <= size && long >= 1 && long <= MaxText && len(op.Spans) == 0 && size+long <= MaxCells
	case 2:
		return op.At == 0 && op.Text == "" && endOf(op.Spans) <= size
	}
	return false
}

// Adds tells how many cells an operation adds that may be.
func Adds(op api.Op) int {
	if op.Kind == 1 {
		return RunesOf(op.Text)
	}
	return 0
}

// Before follows chapter 8's words.
func Before(a, b api.Op) bool {
	numOf := func(op api.Op) int {
		if op.Num == 0 {
			return math.MaxInt
		}
		return op.Num
	}
	if numOf(a) != numOf(b) {
		return numOf(a) < numOf(b)
	}
	if a.Name.Site != b.Name.Site {
		return a.Name.Site < b.Name.Site
	}
	return a.Name.Seq < b.Name.Seq
}

// Behind follows chapter 9's words: a as it is behind b, of two upon one document.
func Behind(a, b api.Op) api.Op {
	if b.Kind == 2 {
		return a
	}
	n, q := RunesOf(b.Text), b.At
	if a.Kind == 1 {
		if a.At > q || a.At == q && Before(b, a) {
			a.At += n
		}
		return a
	}
	a.Spans = Opened(a.Spans, q, n)
	return a
}

// Hangs follows chapter 10's words: of a behind b.
func Hangs(a, b api.Op) bool {
	if b.Kind == 2 {
		return false
	}
	p, q, n := a.At, b.At, RunesOf(b.Text)
	if a.Kind == 1 {
		return p > q && p < q+n || p == q && Before(b, a) || p == q+n && Before(a, b)
	}
	for p := range Places(a.Spans) {
		if p >= q && p < q+n {
			return true
		}
	}
	return false
}

// Torn follows chapter 10's words, place by place: of a behind b the free part, and the lost one.
func Torn(a, b api.Op) (api.Op, []api.Span) {
	if b.Kind == 2 {
		return a, nil
	}
	p, q, n := a.At, b.At, RunesOf(b.Text)
	if a.Kind == 1 {
		if Hangs(a, b) {
			a.At = q
			return a, []api.Span{{From: p - q}}
		}
		if p > q {
			a.At = p - n
		}
		return a, nil
	}
	var free, lost []api.Span
	for p := range Places(a.Spans) {
		switch {
		case p < q:
			free = With(free, p)
		case p < q+n:
			lost = With(lost, p-q)
		default:
			free = With(free, p-n)
		}
	}
	a.Spans = free
	return a, lost
}
