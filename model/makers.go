package model

import (
	"strings"

	"foolscap/api"
)

// List makes spans of pairs of numbers.
func List(numbers ...int) []api.Span {
	var l []api.Span
	for i := 0; i < len(numbers); i += 2 {
		l = append(l, api.Span{From: numbers[i], Len: numbers[i+1]})
	}
	return l
}

// Name makes a name.
func Name(site, seq int) api.Name {
	return api.Name{Site: site, Seq: seq}
}

// Insertion makes an operation that inserts.
func Insertion(n api.Name, num, at int, text string) api.Op {
	return api.Op{Name: n, Num: num, Kind: api.Ins, At: at, Text: text}
}

// Deletion makes an operation that deletes.
func Deletion(n api.Name, num int, numbers ...int) api.Op {
	return api.Op{Name: n, Num: num, Kind: api.Del, Spans: List(numbers...)}
}

// Each is the list of every other place from one on, up to an end.
func Each(from, to int) []api.Span {
	var l []api.Span
	for p := from; p < to; p += 2 {
		l = append(l, api.Span{From: p, Len: 1})
	}
	return l
}

// Subsets are the lists of all sets of the places below a size.
func Subsets(size int) [][]api.Span {
	var all [][]api.Span
	for bits := range 1 << size {
		var l []api.Span
		for p := range size {
			if bits>>p&1 == 1 {
				l = With(l, p)
			}
		}
		all = append(all, l)
	}
	return all
}

// Picked makes an operation upon a size, of a small Num, as pick picks numbers below what it is given: often at places given, or right beside them.
func Picked(pick func(int) int, n api.Name, size int, places ...int) api.Op {
	at := func() int {
		if p := append(places, 0, size, size/2)[pick(len(places)+3)] + pick(3) - 1; pick(4) > 0 && p >= 0 && p <= size {
			return p
		}
		return pick(size + 1)
	}
	if pick(2) == 0 {
		return Insertion(n, pick(4), at(), strings.Repeat("a\u00e9\u20ac\U0001f642", 50)[:[]int{1, 3, 6, 10, 100, 500}[pick(6)]])
	}
	op := Deletion(n, pick(4))
	for p := at(); p < size && len(op.Spans) < 40; p += 1 + pick(1+size/20) {
		long := min(1+pick(1+size/10), size-p)
		op.Spans = append(op.Spans, api.Span{From: p, Len: long})
		p += long + 1
	}
	return op
}
