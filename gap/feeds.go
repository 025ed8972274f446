package gap

import "sort"

// front is a place counted from the beginning of a text, back one counted from its end: types of their own, so that neither is taken for the other.
type (
	front int
	back  int
)

// stack holds places, the one that is nearest to the gap on top.
type stack[T front | back] struct {
	places []T
}

func (s *stack[T]) size() int { return len(s.places) }

func (s *stack[T]) push(p T) { s.places = append(s.places, p) }

func (s *stack[T]) top() T { return s.places[len(s.places)-1] }

func (s *stack[T]) pop() T {
	p := s.top()
	s.places = s.places[:len(s.places)-1]
	return p
}

// feeds holds where the line feeds of a text stand. Those behind the gap are counted from the end, so that an edit at the gap leaves them as they are.
type feeds struct {
	ahead  stack[front]
	behind stack[back]
}

func (f *feeds) size() int { return f.ahead.size() + f.behind.size() }

// move takes the gap to the place at, in a text of size runes.
func (f *feeds) move(at, size int) {
	for f.ahead.size() > 0 && int(f.ahead.top()) >= at {
		f.behind.push(back(size - int(f.ahead.pop())))
	}
	for f.behind.size() > 0 && size-int(f.behind.top()) < at {
		f.ahead.push(front(size - int(f.behind.pop())))
	}
}

// insert takes in the line feeds of runes that come to stand from the place at on, ahead of the gap.
func (f *feeds) insert(at int, l []rune) {
	for i, r := range l {
		if r == '\n' {
			f.ahead.push(front(at + i))
		}
	}
}

// leave drops the line feeds behind the gap, but those among the last rest runes.
func (f *feeds) leave(rest int) {
	for f.behind.size() > 0 && int(f.behind.top()) > rest {
		f.behind.pop()
	}
}

// place tells where the line feed k stands (0 the first), in a text of size runes.
func (f *feeds) place(k, size int) int {
	if k < f.ahead.size() {
		return int(f.ahead.places[k])
	}
	return size - int(f.behind.places[f.size()-1-k])
}

// count tells how many line feeds stand ahead of a place, in a text of size runes.
func (f *feeds) count(at, size int) int {
	return sort.Search(f.size(), func(k int) bool { return f.place(k, size) >= at })
}
