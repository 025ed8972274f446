package ops

import (
	"strings"
	"unicode/utf8"

	"foolscap/api"
	"foolscap/nums"
)

// part is a field as bytes: how they are made, and how they are read. Both stand side by side, so that neither goes another way than the other.
type part interface {
	put() string
	read(r *nums.Reader)
}

// put tells the bytes of parts.
func put(parts []part) string {
	var b strings.Builder
	for _, p := range parts {
		b.WriteString(p.put())
	}
	return b.String()
}

// read reads parts.
func read(r *nums.Reader, parts []part) {
	for _, p := range parts {
		p.read(r)
	}
}

// head tells the parts up to the Kind, which operations and edits have alike.
func head(name *api.Name, num, kind *int) []part {
	return []part{number{&name.Site, api.MaxSites}, number{&name.Seq, api.MaxNum}, number{num, api.MaxNum}, number{kind, deletes}}
}

// number is a number of at most most.
type number struct {
	n    *int
	most uint64
}

// place makes the part of a number that counts cells.
func place(n *int) part {
	return number{n, api.MaxCells}
}

func (p number) put() string { return nums.Put(uint64(*p.n)) }

func (p number) read(r *nums.Reader) { *p.n = int(r.Num(p.most)) }

// row is a text that is inserted.
type row struct {
	s *string
}

func (p row) put() string { return nums.PutText(*p.s) }

func (p row) read(r *nums.Reader) { *p.s = r.Text(api.MaxText * utf8.UTFMax) }

// list is a list of spans.
type list struct {
	l *[]api.Span
}

func (p list) put() string {
	var b strings.Builder
	b.WriteString(nums.Put(uint64(len(*p.l))))
	for _, s := range *p.l {
		b.WriteString(put(bounds(&s)))
	}
	return b.String()
}

func (p list) read(r *nums.Reader) {
	for range r.Num(api.MaxCells) {
		// A few bytes may say that many spans follow.
		if r.Fault() != api.OK {
			return
		}
		var s api.Span
		read(r, bounds(&s))
		*p.l = append(*p.l, s)
	}
}

// bounds tells the parts of a span.
func bounds(s *api.Span) []part {
	return []part{place(&s.From), place(&s.Len)}
}
