package caret_test

import (
	"math/rand"
	"slices"
	"strings"
	"testing"

	"foolscap/api"
	"foolscap/caret"
	"foolscap/cells"
	"foolscap/model"
	"foolscap/model/hists"
)

// named is a cell by what no other one has; a zero one is the beginning of a document.
type named struct {
	name api.Name
	off  int
}

// keyOf is a cell by its name.
func keyOf(c api.Cell) named { return named{c.Name, c.Off} }

// ahead tells the cell that a place stands right behind.
func ahead(l []api.Cell, p int) named {
	if p == 0 {
		return named{}
	}
	return keyOf(l[p-1])
}

// rightBehind tells the place right behind a cell, -1 if it isn't there any more.
func rightBehind(l []api.Cell, key named) int {
	if key == (named{}) {
		return 0
	}
	p := slices.IndexFunc(l, func(c api.Cell) bool { return keyOf(c) == key })
	if p < 0 {
		return -1
	}
	return p + 1
}

// caretOf is a caret by the cells that its two places stand right behind.
type caretOf struct {
	site   int
	places [2]named
}

// nameCaret tells the cells that a mark stands right behind.
func nameCaret(l []api.Cell, m caret.Mark) caretOf {
	return caretOf{m.Site, [2]named{ahead(l, m.At), ahead(l, m.To)}}
}

// done tells the caret behind an operation upon a document: it stands where it stood, but behind what its own site inserts there.
func (c caretOf) done(l []api.Cell, op api.Op) caretOf {
	for i, key := range c.places {
		if op.Kind == api.Ins && op.Name.Site == c.site && key == ahead(l, op.At) {
			c.places[i] = named{op.Name, adds(op) - 1}
		}
	}
	return c
}

// dropped tells the caret when cells of a document are dropped: it stands behind what is left ahead of it.
func (c caretOf) dropped(l []api.Cell, gone []api.Span) caretOf {
	for i, key := range c.places {
		for slices.Contains(slices.Collect(model.Places(gone)), rightBehind(l, key)-1) {
			key = ahead(l, rightBehind(l, key)-1)
		}
		c.places[i] = key
	}
	return c
}

// mark tells the caret's places.
func (c caretOf) mark(l []api.Cell) caret.Mark {
	return mark(c.site, rightBehind(l, c.places[0]), rightBehind(l, c.places[1]))
}

// without tells a document without the cells at places.
func without(l []api.Cell, gone []api.Span) []api.Cell {
	left := slices.Clone(l)
	for _, s := range slices.Backward(gone) {
		left = slices.Delete(left, s.From, s.From+s.Len)
	}
	return left
}

// runesOf tells the runes that are seen.
func runesOf(l []api.Cell) []rune {
	var all []rune
	for _, c := range l {
		if !c.Gone {
			all = append(all, c.R)
		}
	}
	return all
}

// goneOf tells the places of the cells that are Gone.
func goneOf(l []api.Cell) []api.Span {
	var all []api.Span
	for p, c := range l {
		if c.Gone {
			all = model.With(all, p)
		}
	}
	return all
}

// do carries an operation out upon a document; both as cells.
func do(t *testing.T, d *cells.Doc, op api.Op) *cells.Doc {
	t.Helper()
	next := d.Copy()
	if err := next.Do(op); err != api.OK {
		t.Fatal(op, err)
	}
	return next
}

// shown tells what is shown of a mark, which may be.
func shown(t *testing.T, d *cells.Doc, m caret.Mark) (int, int) {
	t.Helper()
	i, j, err := caret.Shown(d, m)
	if err != api.OK {
		t.Fatal(m, err)
	}
	return i, j
}

// put puts a mark where it may be.
func put(t *testing.T, d *cells.Doc, site, i, j int) caret.Mark {
	t.Helper()
	m, err := caret.Put(d, site, i, j)
	if err != api.OK {
		t.Fatal(site, i, j, err)
	}
	return m
}

// move moves a mark that may be by an operation that may be.
func move(t *testing.T, m caret.Mark, op api.Op, size int) caret.Mark {
	t.Helper()
	next, err := caret.Move(m, op, size)
	if err != api.OK {
		t.Fatal(m, op, err)
	}
	return next
}

// P16.2: all marks upon small documents stand behind the cells that they stood behind, whatever is done by their own site and by another one; behind what is their own.
func TestNamedDeeds(t *testing.T) {
	for size := range 5 {
		l := row(size, 0)
		for _, op := range deeds(size, 1, 2) {
			next := play(l, op)
			for m := range marks(1, 0, size) {
				if got, want := move(t, m, op, size), nameCaret(l, m).done(l, op).mark(next); got != want {
					t.Errorf("Move(%v, %v, %d): %v, not %v", m, op, size, got, want)
				}
			}
			got, err := caret.Behind(op, size)
			if err != api.OK {
				t.Error(op, err)
			}
			// It stands behind the last cell that was inserted, or ahead of the first that was deleted.
			want := mark(op.Name.Site, 0, 0)
			if p := slices.IndexFunc(next, func(c api.Cell) bool { return c.Gone }); p > 0 {
				want = mark(op.Name.Site, p, p)
			}
			if op.Kind == api.Ins {
				p := rightBehind(next, named{op.Name, adds(op) - 1})
				want = mark(op.Name.Site, p, p)
			}
			if got != want {
				t.Errorf("Behind(%v, %d): %v, not %v", op, size, got, want)
			}
		}
	}
}

// P16.3: all marks upon small documents stand behind what is left of the cells ahead of them, whatever is dropped.
func TestNamedDrops(t *testing.T) {
	l := row(6, 0b111111)
	for _, gone := range subsets(6) {
		left := without(l, gone)
		for m := range marks(1, 0, 6) {
			got, err := caret.Drop(m, gone)
			if want := nameCaret(l, m).dropped(l, gone).mark(left); got != want || err != api.OK {
				t.Errorf("Drop(%v, %v): %v, %d, not %v", m, gone, got, err, want)
			}
		}
	}
}

// P16.4: what was put at i is shown at i.
func TestPutIsShown(t *testing.T) {
	for l := range small(6) {
		d := docOf(t, l)
		for m := range marks(3, 0, d.Live()) {
			if i, j := shown(t, d, put(t, d, m.Site, m.At, m.To)); i != m.At || j != m.To {
				t.Errorf("of %v, put at %d, %d: shown at %d, %d", l, m.At, m.To, i, j)
			}
		}
	}
	d := docOf(t, hists.Wide(maxCells).Base)
	for _, i := range []int{0, 1, 2, 133, 134, d.Live() - 1, d.Live()} {
		if k, j := shown(t, d, put(t, d, maxSites, i, d.Live()-i)); k != i || j != d.Live()-i {
			t.Errorf("put at %d: shown at %d, %d", i, k, j)
		}
	}
}

// P16.4: what others insert at a mark is shown behind it, what its own site inserts there ahead of it; that is so where it was put, and wherever it stands.
func TestInsertedAt(t *testing.T) {
	for l := range small(5) {
		d := docOf(t, l)
		for p := range len(l) + 1 {
			for _, text := range []string{"X", "Y\u20acZ"} {
				m := mark(1, p, 0)
				i, _ := shown(t, d, m)
				was := string(runesOf(l)[:i])
				for _, site := range []int{1, 2} {
					op := insertion(name(site, 1), 0, p, text)
					next := do(t, d, op)
					k, _ := shown(t, next, move(t, m, op, len(l)))
					all := []rune(next.Text())
					if site == 2 && (string(all[:k]) != was || !strings.HasPrefix(string(all[k:]), text)) {
						t.Errorf("of %v another one's %q at %d: shown at %d of %q", l, text, p, k, next.Text())
					}
					if site == 1 && string(all[:k]) != was+text {
						t.Errorf("of %v its own %q at %d: shown at %d of %q", l, text, p, k, next.Text())
					}
				}
			}
		}
		// Where it was put: what is inserted there goes to the same place.
		for i := range d.Live() + 1 {
			m := put(t, d, 1, i, i)
			for site, want := range []int{1: i + 2, 2: i} {
				if site == 0 {
					continue
				}
				op := insertion(name(site, 1), 0, m.At, "XY")
				if k, j := shown(t, do(t, d, op), move(t, m, op, len(l))); k != want || j != want {
					t.Errorf("of %v put at %d, the site %d inserts there: shown at %d, %d", l, i, site, k, j)
				}
			}
		}
	}
}

// P16.4: what is deleted around a mark leaves it between what is left.
func TestDeletedAround(t *testing.T) {
	for l := range small(5) {
		d := docOf(t, l)
		for i := range d.Live() + 1 {
			for from := range i + 1 {
				for n := range d.Live() - from + 1 {
					where, err := d.Run(from, n)
					if err != api.OK {
						t.Fatal(err)
					}
					for _, site := range []int{1, 2} {
						op := api.Op{Name: name(site, 1), Kind: api.Del, Spans: where}
						next := do(t, d, op)
						k, _ := shown(t, next, move(t, put(t, d, 1, i, i), op, len(l)))
						was, all := []rune(d.Text()), []rune(next.Text())
						left, right := string(was[:from]), string(was[max(i, from+n):])
						if from+n < i {
							left += string(was[from+n : i])
						}
						if string(all[:k]) != left || string(all[k:]) != right {
							t.Errorf("of %v without %d, %d the mark at %d: shown at %d of %q", l, from, n, i, k, next.Text())
						}
					}
				}
			}
		}
	}
}

// P16.4: what is dropped, of the document and of the mark alike, changes nothing that is shown.
func TestDroppedIsUnseen(t *testing.T) {
	for l := range small(5) {
		gone := slices.Collect(model.Places(goneOf(l)))
		for _, picks := range subsets(len(gone)) {
			var where []api.Span
			for k := range model.Places(picks) {
				where = model.With(where, gone[k])
			}
			d, left := docOf(t, l), docOf(t, l)
			if err := left.Drop(where); err != api.OK {
				t.Fatal(err)
			}
			for m := range marks(1, 0, len(l)) {
				next, err := caret.Drop(m, where)
				if err != api.OK || !caret.May(next, left.Size()) {
					t.Fatal(m, where, next, err)
				}
				i, j := shown(t, d, m)
				if k, o := shown(t, left, next); k != i || o != j {
					t.Errorf("of %v dropped %v of %v: shown at %d, %d, then at %d, %d", l, where, m, i, j, k, o)
				}
			}
		}
	}
}

// What a site types at its caret, one behind the other, is seen in that order, with the caret behind it, where Behind says; whatever others do meanwhile.
func TestTyped(t *testing.T) {
	r := rand.New(rand.NewSource(164))
	for range 300 {
		d := docOf(t, row(r.Intn(8), r.Intn(256)))
		m := put(t, d, 1, r.Intn(d.Live()+1), 0)
		var typed []rune
		for seq := 1; seq < 12; seq++ {
			i, _ := shown(t, d, m)
			at, err := d.Gap(i)
			if err != api.OK {
				t.Fatal(err)
			}
			op := insertion(name(1, seq), 0, at, string(rune('A'+seq))+"\u20ac"[:3*r.Intn(2)])
			ahead := string([]rune(d.Text())[:i])
			size := d.Size()
			d = do(t, d, op)
			typed = append(typed, []rune(op.Text)...)
			if m, err = caret.Behind(op, size); err != api.OK {
				t.Fatal(op, err)
			}
			i, j := shown(t, d, m)
			if got := string([]rune(d.Text())[:i]); i != j || got != ahead+op.Text {
				t.Fatalf("behind %q it typed %q: shown at %d, %d of %q", ahead, op.Text, i, j, d.Text())
			}
			// Another site does something, and deletes nothing of it.
			other := insertion(name(2, seq), 0, r.Intn(d.Size()+1), "xy"[:1+r.Intn(2)])
			if r.Intn(2) == 0 {
				other = api.Op{Name: name(2, seq), Kind: api.Del}
				for p, c := range d.Cells() {
					if c.Name.Site != 1 && r.Intn(4) == 0 {
						other.Spans = model.With(other.Spans, p)
					}
				}
			}
			m = move(t, m, other, d.Size())
			d = do(t, d, other)
		}
		var own []rune
		for _, c := range d.Cells() {
			if c.Name.Site == 1 {
				own = append(own, c.R)
			}
		}
		if !slices.Equal(own, typed) {
			t.Fatalf("typed %q, seen %q", string(typed), string(own))
		}
	}
}

// sheet is a document, as the package of layer 12 has it and as plain cells, with carets of some sites, each as a mark and by named cells.
type sheet struct {
	d      *cells.Doc
	l      []api.Cell
	marks  []caret.Mark
	carets []caretOf
}

// check tells what of a sheet isn't as it should be.
func (s *sheet) check(t *testing.T) {
	t.Helper()
	for k, c := range s.carets {
		want := c.mark(s.l)
		if s.marks[k] != want {
			t.Fatalf("the caret %d stands at %v, not at %v", k, s.marks[k], want)
		}
		if i, j := shown(t, s.d, want); i != seen(s.l, want.At) || j != seen(s.l, want.To) {
			t.Fatalf("the caret %v is shown at %d, %d, not at %d, %d", want, i, j, seen(s.l, want.At), seen(s.l, want.To))
		}
	}
}

// do carries an operation out, and moves all carets.
func (s *sheet) do(t *testing.T, op api.Op) {
	t.Helper()
	for k := range s.marks {
		s.marks[k] = move(t, s.marks[k], op, len(s.l))
		s.carets[k] = s.carets[k].done(s.l, op)
	}
	s.d, s.l = do(t, s.d, op), play(s.l, op)
}

// drop drops some of the cells that are Gone.
func (s *sheet) drop(t *testing.T, gone []api.Span) {
	t.Helper()
	for k := range s.marks {
		next, err := caret.Drop(s.marks[k], gone)
		if err != api.OK {
			t.Fatal(err)
		}
		s.marks[k] = next
		s.carets[k] = s.carets[k].dropped(s.l, gone)
	}
	if err := s.d.Drop(gone); err != api.OK {
		t.Fatal(err)
	}
	s.l = without(s.l, gone)
}

// put puts a site's caret where it is wanted.
func (s *sheet) put(t *testing.T, k, i, j int) {
	t.Helper()
	s.marks[k] = put(t, s.d, s.marks[k].Site, i, j)
	at, _ := gap(s.l, i)
	to, _ := gap(s.l, j)
	s.carets[k] = nameCaret(s.l, mark(s.marks[k].Site, at, to))
}

// The carets of some sites stand behind the same cells as plain ones do, whatever is done, dropped and put by turns.
func TestNamedWorlds(t *testing.T) {
	r := rand.New(rand.NewSource(416))
	for range 150 {
		s := &sheet{d: docOf(t, nil)}
		for site := 1; site <= 4; site++ {
			s.marks = append(s.marks, put(t, s.d, site, 0, 0))
			s.carets = append(s.carets, caretOf{site: site})
		}
		for seq := 1; seq <= 40; seq++ {
			live := len(runesOf(s.l))
			switch r.Intn(6) {
			case 0:
				s.put(t, r.Intn(4), r.Intn(live+1), r.Intn(live+1))
			case 1:
				var some []api.Span
				for p := range model.Places(goneOf(s.l)) {
					if r.Intn(2) == 0 {
						some = model.With(some, p)
					}
				}
				s.drop(t, some)
			default:
				m := s.marks[r.Intn(4)]
				op := model.Picked(r.Intn, name(1+r.Intn(5), seq), len(s.l), m.At, m.To)
				if len(s.l) > 300 && op.Kind == api.Ins {
					op = deletion(op.Name, 0)
				}
				s.do(t, op)
			}
			s.check(t)
		}
	}
}
