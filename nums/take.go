package nums

import (
	"strconv"
	"strings"

	"foolscap/api"
)

// fault is what a take panics with, where the bytes aren't right. It goes no further than read.
type fault api.Errno

func (f fault) Error() string { return "nums: fault " + strconv.Itoa(int(f)) }

// read answers what take takes; where that faults, zero, and nothing is passed. A nil reader has faulted from the beginning.
func read[T any](r *Reader, take func() T) (taken T) {
	if r.Fault() != api.OK {
		return taken
	}
	from := r.rest
	defer func() {
		if told := recover(); told != nil {
			// Whatever else had panicked would go on from this assertion.
			r.fault = told.(fault)
			r.rest = from
		}
	}()
	return take()
}

// takeNum passes the number that stands next.
func (r *Reader) takeNum(most uint64) uint64 {
	size := r.size()
	last := r.rest[size-1]
	if size == mostBytes && last > lastDigit || size > 1 && last == 0 {
		panic(fault(api.ErrForm))
	}
	var n uint64
	for i := range size {
		n |= uint64(r.rest[i]%goesOn) << (digitBits * i)
	}
	if n > most {
		panic(fault(api.ErrForm))
	}
	r.rest = r.rest[size:]
	return n
}

// size tells how many bytes the number has that stands next.
func (r *Reader) size() int {
	for i := range min(len(r.rest), mostBytes) {
		if r.rest[i] < goesOn {
			return i + 1
		}
	}
	if len(r.rest) >= mostBytes {
		panic(fault(api.ErrForm))
	}
	panic(fault(api.ErrShort))
}

// takeText passes the row that stands next.
func (r *Reader) takeText(most int) string {
	n := r.takeNum(uint64(most))
	if n > uint64(len(r.rest)) {
		panic(fault(api.ErrShort))
	}
	// A piece of the rest would share its memory.
	s := strings.Clone(r.rest[:n])
	r.rest = r.rest[n:]
	return s
}
