package frame

import (
	"foolscap/api"
	"foolscap/crc"
	"foolscap/nums"
)

const (
	mark     = "FS" // each frame begins so
	headSize = len(mark) + 1
	sumSize  = 4
)

// field is one of a frame's: how its bytes are made, and how they are read. Both stand side by side, so that neither goes another way than the other.
type field struct {
	put  func() string
	read func(r *reader)
}

// fields lists what stands between a frame's kind and its sum, from the left.
func fields(f *Frame) []field {
	site, seq, ack := number(&f.Site, api.MaxSites), number(&f.Seq, api.MaxNum), number(&f.Ack, api.MaxNum)
	if f.Kind == carries {
		return []field{site, seq, ack, row(&f.Body)}
	}
	return []field{site, ack}
}

// number makes a field of a number of at most most.
func number(n *int, most uint64) field {
	return field{
		put:  func() string { return nums.Put(uint64(*n)) },
		read: func(r *reader) { *n = int(r.Num(most)) },
	}
}

// row makes a field of a body's bytes.
func row(s *string) field {
	return field{
		put:  func() string { return nums.PutText(*s) },
		read: func(r *reader) { *s = r.Text(api.MaxBody) },
	}
}

// reader goes along a frame's bytes behind its kind, the sum's too.
type reader struct {
	*nums.Reader
	whole string
}

// begins tells what is wrong with the mark, or with the kind.
func begins(s string) api.Errno {
	if len(s) < headSize {
		return api.ErrShort
	}
	if kind := s[len(mark)]; s[:len(mark)] != mark || kind != carries && kind != tells {
		return api.ErrForm
	}
	return api.OK
}

// read makes a reader of a frame that begins as it should.
func read(s string) *reader {
	return &reader{nums.Read(s[headSize:]), s}
}

// ends tells what was wrong with the fields, or is with what is left behind them.
func (r *reader) ends() api.Errno {
	if e := r.Fault(); e != api.OK {
		return e
	}
	if r.Left() < sumSize {
		return api.ErrShort
	}
	if r.Left() > sumSize {
		return api.ErrMore
	}
	at := len(r.whole) - sumSize
	if crc.Put(crc.Sum(r.whole[:at])) != r.whole[at:] {
		return api.ErrSum
	}
	return api.OK
}
