package hist_test

import (
	"math"
	"slices"
	"strings"
	"testing"

	"foolscap/api"
	"foolscap/hist"
)

// change is a history that something is done to.
type change struct {
	words string // which of the chapter's words doesn't hold behind it, alone; none, if it may be
	do    func(h *hist.Hist)
}

// holdsChanges checks the sample behind each of some changes.
func holdsChanges(t *testing.T, from func() hist.Hist, l []change) {
	t.Helper()
	for i, x := range l {
		h := clone(from())
		x.do(&h)
		var want []string
		if x.words != "" {
			want = []string{x.words}
		}
		if got := broken(h); !slices.Equal(got, want) {
			t.Errorf("the test is wrong: the change %d breaks %q, not %q", i, got, want)
		}
		if got := hist.May(h); got != (x.words == "") {
			t.Errorf("May of the change %d (%q): %t: %v", i, x.words, got, brief(h))
		}
		holdsAll(t, h)
	}
}

// P13.1: what a document of Base may not be, and just may be.
func TestMayBase(t *testing.T) {
	const base, names = "a document of Base", "the names of Base"
	set := func(i int, do func(c *api.Cell)) func(h *hist.Hist) {
		return func(h *hist.Hist) { do(&h.Base[i]) }
	}
	var l []change
	for _, i := range []int{0, 3, 6} {
		for _, off := range append(huge, maxText) {
			l = append(l, change{base, set(i, func(c *api.Cell) { c.Off = off })})
		}
		for _, r := range []rune{-1, 0xd800, 0xdfff, 0x110000, math.MinInt32, math.MaxInt32} {
			l = append(l, change{base, set(i, func(c *api.Cell) { c.R = r })})
		}
		for _, r := range []rune{0, 0xd7ff, 0xe000, 0x10ffff, 0xfffd} {
			l = append(l, change{"", set(i, func(c *api.Cell) { c.R = r })})
		}
		for _, off := range []int{9, maxText - 1} {
			l = append(l, change{"", set(i, func(c *api.Cell) { c.Off = off })})
		}
		l = append(l, change{"", set(i, func(c *api.Cell) { c.Gone = !c.Gone })})
		// Two alike, live and Gone, of one rune and of two.
		for k := range sample().Base {
			if k == i {
				continue
			}
			l = append(l, change{base, func(h *hist.Hist) { h.Base[i] = h.Base[k] }}, change{base, func(h *hist.Hist) {
				h.Base[i].Name, h.Base[i].Off, h.Base[i].Gone, h.Base[i].R = h.Base[k].Name, h.Base[k].Off, !h.Base[k].Gone, 'z'
			}})
		}
		// Names that Vector hasn't: of a site with a lesser count, with none, behind Vector's end.
		for _, n := range []api.Name{name(1, 2), name(2, 2), name(3, 6), name(4, 1), name(5, 3), name(6, 1), name(maxSites, 1), name(1, maxNum)} {
			l = append(l, change{names, set(i, func(c *api.Cell) { c.Name, c.Off = n, 9 })})
		}
		for _, n := range []api.Name{name(1, 1), name(2, 1), name(3, 5), name(3, 1), name(5, 1), name(5, 2)} {
			l = append(l, change{"", set(i, func(c *api.Cell) { c.Name, c.Off = n, 9 })})
		}
	}
	l = append(l, change{names, func(h *hist.Hist) { h.Vector[2], h.List = 4, h.List[:4] }}, change{names, func(h *hist.Hist) { h.Vector, h.List = h.Vector[:2], h.List[:4] }}, change{names, func(h *hist.Hist) { h.Vector, h.List = nil, nil }})
	holdsChanges(t, sample, l)
	// A name that may not be is none that a vector has.
	for _, n := range []api.Name{{}, name(0, 1), name(-1, 1), name(maxSites+1, 1), name(1, 0), name(1, -1), name(1, maxNum+1), name(math.MinInt, 1), name(math.MaxInt, 1), name(1, math.MinInt)} {
		h := clone(sample())
		h.Base[4].Name = n
		if got := broken(h); !slices.Equal(got, []string{base, names}) {
			t.Errorf("the test is wrong: the name %v breaks %q", n, got)
		}
		holdsAll(t, h)
	}
}

// P13.1: as many cells as there may be, and one more, upon which the operations may be as well.
func TestMayBaseFull(t *testing.T) {
	for _, n := range []int{maxCells - 2, maxCells - 1, maxCells, maxCells + 1} {
		h := wide(n)
		if got := hist.May(h); got != (n <= maxCells) || got != may(h) {
			t.Errorf("May of %d cells: %t", n, got)
		}
		h.Num = 2
		for _, op := range []api.Op{insertion(name(1, 1), 1, 0, "ab"), insertion(name(1, 1), 0, maxCells-2, "ab"), deletion(name(1, 1), 2, 0, maxCells), deletion(name(1, 1), 0, 0, maxCells-2), deletion(name(1, 1), 1)} {
			other := h
			other.List = entries(op)
			if got := hist.May(other); got != may(other) {
				t.Errorf("May of %d cells, and %v: %t", n, op, got)
			}
		}
	}
	holdsAll(t, wide(maxCells+1))
	h := wide(maxCells)
	holdsAll(t, h)
	holdsReplay(t, h, 0)
	holdsReplay(t, h, 1)
	h.List = entries(deletion(name(2, 101), 0, 5, 10000, 15006, 4000), deletion(name(2, 102), 0, 0, maxCells))
	holds(t, h)
	holdsAdd(t, h, entry(insertion(name(2, 103), 0, 0, "a")))
	holdsAdd(t, h, entry(deletion(name(2, 103), 0, 0, maxCells)))
	h = wide(maxCells - 4)
	h.Num, h.List = 8, entries(insertion(name(3, 1), 8, maxCells-5, "abc"), deletion(name(2, 101), 0, 0, maxCells-1))
	holds(t, h)
	holdsAdd(t, h, entry(insertion(name(2, 102), 0, maxCells-1, "a")))
	holdsAdd(t, h, entry(insertion(name(2, 102), 0, maxCells-1, "ab")))
}

// P13.1: what a Vector may not be, and just may be.
func TestMayVector(t *testing.T) {
	const vector = "a vector"
	var l []change
	for _, n := range append(huge, 0) {
		// Behind Vector's end, and in it, of a site of which there are neither cells nor entries.
		l = append(l, change{vector, func(h *hist.Hist) { h.Vector[4] = n }}, change{vector, func(h *hist.Hist) { h.Vector = append(h.Vector, n) }})
		if n != 0 {
			l = append(l, change{vector, func(h *hist.Hist) { h.Vector = append(h.Vector, n, 1) }})
		}
	}
	for _, n := range []int{1, 7, maxNum} {
		l = append(l, change{"", func(h *hist.Hist) { h.Vector[4] = n }}, change{"", func(h *hist.Hist) { h.Vector = append(h.Vector, n) }}, change{"", func(h *hist.Hist) { h.Vector = append(h.Vector, 0, n) }})
	}
	l = append(l,
		change{"", func(h *hist.Hist) { h.Vector = h.Vector[:3] }},
		change{vector, func(h *hist.Hist) { h.Vector = h.Vector[:4] }},
		change{"", func(h *hist.Hist) { h.Vector = append(h.Vector, 0, 0, 0, 0, 0, 0, 0, 0, 0, 0, 1) }},
		change{vector, func(h *hist.Hist) { h.Vector = append(h.Vector, 0, 0, 0, 0, 0, 0, 0, 0, 0, 0, 1, 1) }},
		change{vector, func(h *hist.Hist) { h.Vector = append(h.Vector, 0, 0, 0, 0, 0, 0, 0, 0, 0, 0, 0, 1) }},
	)
	holdsChanges(t, sample, l)
	// Where there is neither a cell nor an entry.
	for _, v := range [][]int{{0}, {-1}, {1, 0}, {maxNum + 1}, {1, -1, 1}, slices.Repeat([]int{1}, maxSites+1), {0, 0}} {
		h := hist.Hist{Vector: v}
		if got := broken(h); !slices.Equal(got, []string{vector}) {
			t.Errorf("the test is wrong: %v breaks %q", v, got)
		}
		holdsAll(t, h)
	}
	holds(t, hist.Hist{Vector: slices.Repeat([]int{maxNum}, maxSites)})
}

// P13.1: what From and Num may not be, and just may be.
func TestMayNumbers(t *testing.T) {
	numbers := append([]int{0, 1, 2, 3, 11, 12, maxNum - 1, maxNum}, huge...)
	// Of no entry, and of pending ones, any two numbers.
	pending := entries(insertion(name(3, 1), 0, 0, "pp"), deletion(name(3, 2), 0, 0, 1))
	for _, from := range numbers {
		for _, num := range numbers {
			want := from >= 0 && from <= num && num <= maxNum
			for _, h := range []hist.Hist{{From: from, Num: num}, {From: from, Num: num, List: pending}} {
				if got := hist.May(h); got != want {
					t.Errorf("May of From %d, Num %d: %t", from, num, got)
				}
				holdsAll(t, h)
			}
		}
	}
	const from, num, first, rising, upTo = "From", "Num", "numbers first", "numbers above From, and rising", "numbers up to Num"
	numbered := func(l ...int) func(h *hist.Hist) {
		return func(h *hist.Hist) {
			for i, n := range l {
				h.List[i].Op.Num = n
			}
		}
	}
	holdsChanges(t, sample, []change{
		// From 4, Num 12: the entries' numbers are 5, 7, 8 and 11.
		{from, func(h *hist.Hist) { h.From = -1 }}, {from, func(h *hist.Hist) { h.From = math.MinInt }}, {"", func(h *hist.Hist) { h.From = 0 }}, {"", func(h *hist.Hist) { h.From = 3 }}, {rising, func(h *hist.Hist) { h.From = 5 }}, {rising, func(h *hist.Hist) { h.From = 12 }},
		{"", func(h *hist.Hist) { h.Num = 11 }}, {upTo, func(h *hist.Hist) { h.Num = 10 }}, {upTo, func(h *hist.Hist) { h.Num = 5 }}, {upTo, func(h *hist.Hist) { h.Num = 4 }}, {"", func(h *hist.Hist) { h.Num = maxNum }}, {num, func(h *hist.Hist) { h.Num = maxNum + 1 }}, {num, func(h *hist.Hist) { h.Num = math.MaxInt }},
		{"", numbered(5, 6, 7, 8)}, {"", numbered(9, 10, 11, 12)}, {"", numbered(5, 6, 11, 12)}, {rising, numbered(4)}, {rising, numbered(1)}, {upTo, numbered(5, 7, 8, 13)}, {upTo, numbered(5, 7, 8, maxNum)},
		{rising, numbered(5, 5)}, {rising, numbered(7)}, {rising, numbered(8)}, {rising, numbered(5, 8)}, {rising, numbered(5, 7, 7)}, {rising, numbered(5, 7, 8, 8)}, {rising, numbered(5, 7, 8, 7)}, {rising, numbered(5, 7, 8, 5)}, {rising, numbered(5, 12)}, {rising, numbered(11, 8, 7, 5)},
	})
	// One with a number behind a pending one, of its site and another one.
	for _, site := range []int{3, 4} {
		for _, nums := range [][]int{{0, 1}, {1, 0, 2}, {0, 1, 0}, {0, 0, 2}, {1, 0, 2, 0}} {
			h := hist.Hist{Num: 2}
			seqs := [5]int{}
			for _, n := range nums {
				of := 3
				if n != 0 {
					of = site
				}
				seqs[of]++
				h.List = append(h.List, entry(insertion(name(of, seqs[of]), n, 0, "a")))
			}
			if got := broken(h); !slices.Equal(got, []string{first}) {
				t.Errorf("the test is wrong: %v breaks %q", nums, got)
			}
			holdsAll(t, h)
		}
	}
}

// P13.1: a number that isn't from 0 to MaxNum is none that an operation may have, whatever the others are.
func TestMayWrongNums(t *testing.T) {
	for _, n := range huge {
		for i := range sample().List {
			h := clone(sample())
			h.List[i].Op.Num = n
			if may(h) {
				t.Error(n, i)
			}
			holdsAll(t, h)
		}
		h := hist.Hist{From: 0, Num: maxNum, List: entries(insertion(name(1, 1), n, 0, "a"))}
		if may(h) {
			t.Error(n)
		}
		holdsAll(t, h)
	}
}

// P13.1: what the edits may not be, and just may be.
func TestMayEdits(t *testing.T) {
	const edit, names, kind = "an edit", "the operation's name", "the operation's kind"
	set := func(i int, do func(e *api.Edit)) func(h *hist.Hist) {
		return func(h *hist.Hist) { do(&h.List[i].Edit) }
	}
	var l []change
	// Insertions are the entries 0 and 4, deletions 1 and 5.
	for _, i := range []int{0, 1, 4, 5} {
		for _, n := range huge {
			l = append(l, change{edit, set(i, func(e *api.Edit) { e.Context = n })}, change{edit, set(i, func(e *api.Edit) { e.At = n })}, change{edit, set(i, func(e *api.Edit) { e.Len = n })})
		}
		for _, n := range []int{0, 1, 3, maxNum} {
			l = append(l, change{"", set(i, func(e *api.Edit) { e.Context = n })})
		}
		for _, n := range []int{0, 1, maxCells} {
			l = append(l, change{"", set(i, func(e *api.Edit) { e.At = n })})
		}
		l = append(l, change{edit, set(i, func(e *api.Edit) { e.At = maxCells + 1 })}, change{edit, set(i, func(e *api.Edit) { e.Len = maxCells + 1 })}, change{edit, set(i, func(e *api.Edit) { e.Text = "\xff" })}, change{edit, set(i, func(e *api.Edit) { e.Text = strings.Repeat("a", maxText+1) })})
		for _, n := range []api.Name{name(1, 9), name(9, 1), name(1, 1), name(3, 8), name(2, maxNum)} {
			l = append(l, change{names, set(i, func(e *api.Edit) { e.Name = n })})
		}
		l = append(l, change{names, set(i, func(e *api.Edit) { e.Name.Seq++ })}, change{names, set(i, func(e *api.Edit) { e.Name.Site++ })})
	}
	for _, i := range []int{0, 4} {
		l = append(l, change{kind, set(i, func(e *api.Edit) { e.Kind, e.Len, e.Text = api.Del, 1, "" })}, change{edit, set(i, func(e *api.Edit) { e.Text = "" })}, change{edit, set(i, func(e *api.Edit) { e.Len = 1 })}, change{"", set(i, func(e *api.Edit) { e.Text = strings.Repeat("\U0001f642", maxText) })}, change{"", set(i, func(e *api.Edit) { e.Text = "other" })})
	}
	for _, i := range []int{1, 5} {
		l = append(l, change{kind, set(i, func(e *api.Edit) { e.Kind, e.Len, e.Text = api.Ins, 0, "a" })}, change{edit, set(i, func(e *api.Edit) { e.Text = "a" })}, change{edit, set(i, func(e *api.Edit) { e.Len = 0 })}, change{"", set(i, func(e *api.Edit) { e.Len = maxCells })})
	}
	holdsChanges(t, sample, l)
	// An edit of a kind, or a name, that may not be isn't the operation's, or the operation may not be either.
	for _, i := range []int{0, 1, 5} {
		for _, do := range []func(e *api.Entry){
			func(e *api.Entry) { e.Edit.Kind = 0 }, func(e *api.Entry) { e.Edit.Kind = 3 }, func(e *api.Entry) { e.Edit.Kind = -1 },
			func(e *api.Entry) { e.Edit.Kind, e.Op.Kind = 0, 0 }, func(e *api.Entry) { e.Edit.Kind, e.Op.Kind = 3, 3 },
			func(e *api.Entry) { e.Edit.Name = api.Name{} }, func(e *api.Entry) { e.Edit.Name.Site = maxSites + 1 }, func(e *api.Entry) { e.Edit.Name, e.Op.Name = name(17, 1), name(17, 1) }, func(e *api.Entry) { e.Edit.Name, e.Op.Name = name(0, 1), name(0, 1) }, func(e *api.Entry) { e.Edit.Name, e.Op.Name = name(9, 0), name(9, 0) }, func(e *api.Entry) { e.Edit, e.Op = api.Edit{}, api.Op{} },
		} {
			h := clone(sample())
			do(&h.List[i])
			if may(h) {
				t.Error(i, brief(h))
			}
			holdsAll(t, h)
		}
	}
}

// P13.1: what the operations may not be, as a list upon the size of Base, and just may be.
func TestMayOps(t *testing.T) {
	const operations = "the operations"
	set := func(i int, do func(op *api.Op)) func(h *hist.Hist) {
		return func(h *hist.Hist) { do(&h.List[i].Op) }
	}
	var l []change
	// The sizes are 7, 10, 10, 11, 12, 14.
	for i, size := range []int{7, 10, 10, 11, 12, 14} {
		if h := sample(); h.List[i].Op.Kind == api.Ins {
			l = append(l, change{operations, set(i, func(op *api.Op) { op.At = size + 1 })}, change{operations, set(i, func(op *api.Op) { op.At = -1 })}, change{"", set(i, func(op *api.Op) { op.At = 0 })}, change{"", set(i, func(op *api.Op) { op.At = size })}, change{operations, set(i, func(op *api.Op) { op.Text = "" })}, change{operations, set(i, func(op *api.Op) { op.Text = "a\xc0" })}, change{operations, set(i, func(op *api.Op) { op.Spans = list(0, 1) })}, change{"", set(i, func(op *api.Op) { op.Text = "longer" })}, change{operations, set(i, func(op *api.Op) { op.Text = strings.Repeat("a", maxText+1) })})
		} else {
			l = append(l, change{operations, set(i, func(op *api.Op) { op.Spans = list(0, size+1) })}, change{operations, set(i, func(op *api.Op) { op.Spans = list(size, 1) })}, change{"", set(i, func(op *api.Op) { op.Spans = list(0, size) })}, change{"", set(i, func(op *api.Op) { op.Spans = nil })}, change{operations, set(i, func(op *api.Op) { op.Spans = list(0, 1, 1, 1) })}, change{operations, set(i, func(op *api.Op) { op.Spans = list(0, 0) })}, change{operations, set(i, func(op *api.Op) { op.At = 1 })}, change{operations, set(i, func(op *api.Op) { op.Text = "a" })})
		}
	}
	l = append(l, change{operations, func(h *hist.Hist) { h.Base = h.Base[:5] }}, change{operations, func(h *hist.Hist) { h.Base = nil }})
	holdsChanges(t, sample, l)
}

// P13.1: what the Seqs of a site may not be, and just may be.
func TestMaySeqs(t *testing.T) {
	const seqs = "Seqs one above the other"
	rename := func(i int, n api.Name) func(h *hist.Hist) {
		return func(h *hist.Hist) { h.List[i].Op.Name, h.List[i].Edit.Name = n, n }
	}
	both := func(i, k int, a, b api.Name) func(h *hist.Hist) {
		return func(h *hist.Hist) { rename(i, a)(h); rename(k, b)(h) }
	}
	holdsChanges(t, sample, []change{
		// The first one of its site: Vector's count, one above, below, further above.
		{seqs, rename(1, name(2, 1))}, {"", rename(1, name(2, 2))}, {seqs, rename(1, name(2, 3))}, {seqs, rename(1, name(2, maxNum))},
		{seqs, rename(2, name(4, 2))}, {"", rename(2, name(5, 3))}, {seqs, rename(2, name(5, 2))}, {seqs, rename(2, name(5, 1))}, {seqs, rename(2, name(5, 4))}, {"", rename(2, name(6, 1))}, {seqs, rename(2, name(6, 2))}, {"", rename(2, name(maxSites, 1))}, {seqs, rename(2, name(maxSites, 2))},
		{seqs, both(4, 5, name(3, 5), name(3, 6))}, {seqs, both(4, 5, name(3, 7), name(3, 8))}, {"", both(4, 5, name(5, 3), name(5, 4))}, {"", both(4, 5, name(1, 4), name(1, 5))},
	})
	// The next one of its site: further above, or below, with others between, and without.
	holdsChanges(t, sample, []change{
		{seqs, rename(3, name(1, 4))}, {seqs, rename(3, name(1, 1))}, {seqs, rename(3, name(1, maxNum))}, {seqs, both(0, 3, name(1, 3), name(1, 2))}, {seqs, both(4, 5, name(3, 7), name(3, 6))}, {seqs, rename(5, name(3, 8))}, {seqs, rename(5, name(3, 5))}, {seqs, rename(5, name(3, 4))},
		{"", both(0, 3, name(5, 3), name(1, 2))}, {"", rename(3, name(2, 3))}, {seqs, rename(3, name(2, 4))},
		{seqs, func(h *hist.Hist) { h.Vector[0] = 2 }}, {seqs, func(h *hist.Hist) { h.Vector[0] = maxNum }}, {seqs, func(h *hist.Hist) { h.Vector[1] = 2 }}, {seqs, func(h *hist.Hist) { h.Vector[3] = 1 }}, {seqs, func(h *hist.Hist) { h.Vector[2] = 6 }}, {"", func(h *hist.Hist) { h.Vector[4] = 9 }},
	})
	// Two of one name: neither are the operations a list.
	h := clone(sample())
	rename(3, name(1, 2))(&h)
	holdsAll(t, h)
	// Up to the greatest Seq.
	h = hist.Hist{Vector: []int{0, maxNum - 2}, Num: 1, List: entries(insertion(name(2, maxNum-1), 1, 0, "a"), deletion(name(2, maxNum), 0, 0, 1))}
	holds(t, h)
	holdsAdd(t, h, entry(insertion(name(2, maxNum+1), 0, 0, "a")))
	h.Vector[1] = maxNum - 1
	holdsAll(t, h)
	holdsAll(t, hist.Hist{Vector: []int{maxNum}, List: entries(insertion(name(1, maxNum), 0, 0, "a"))})
	holdsAll(t, hist.Hist{Vector: []int{maxNum}, List: entries(insertion(name(1, maxNum+1), 0, 0, "a"))})
	holdsAll(t, hist.Hist{Vector: []int{maxNum}, List: entries(insertion(name(1, 1), 0, 0, "a"))})
}

// P13.1: pending ones of two sites, next to each other and further off.
func TestMayPending(t *testing.T) {
	const site = "one site"
	for _, x := range []struct {
		sites []int
		may   bool
	}{
		{[]int{3}, true}, {[]int{3, 3}, true}, {[]int{3, 3, 3}, true}, {[]int{3, 4}, false}, {[]int{4, 3}, false}, {[]int{3, 3, 4}, false}, {[]int{3, 4, 3}, false}, {[]int{4, 3, 3}, false}, {[]int{1, 2, 3}, false}, {[]int{maxSites, maxSites}, true}, {[]int{1, maxSites}, false},
	} {
		for _, numbered := range [][]int{nil, {3}, {4, 5}} {
			h, seqs := hist.Hist{Num: 9}, [maxSites + 1]int{}
			for i, of := range append(slices.Clone(numbered), x.sites...) {
				seqs[of]++
				num := 0
				if i < len(numbered) {
					num = 3 + i
				}
				h.List = append(h.List, entry(insertion(name(of, seqs[of]), num, i, "ab")))
			}
			var want []string
			if !x.may {
				want = []string{site}
			}
			if got := broken(h); !slices.Equal(got, want) {
				t.Errorf("the test is wrong: %v, %v breaks %q", numbered, x.sites, got)
			}
			if got := hist.May(h); got != x.may {
				t.Errorf("May of %v, then %v pending: %t", numbered, x.sites, got)
			}
			holds(t, h)
		}
	}
}

// P13.1, P13.2: as many entries as there may be, and one more; with numbers, without, and both.
func TestMayList(t *testing.T) {
	for _, pending := range []int{maxList + 9, 0, 123, maxList - 1, maxList} {
		for _, n := range []int{maxList - 1, maxList, maxList + 1} {
			h := long(n, pending)
			want := []string(nil)
			if n > maxList {
				want = []string{"how many entries"}
			}
			if got := broken(h); !slices.Equal(got, want) {
				t.Fatalf("the test is wrong: %d, %d breaks %q", n, pending, got)
			}
			holdsAll(t, h)
			if n > maxList {
				continue
			}
			for _, k := range []int{-1, 0, 1, 200, n - 1, n, n + 1} {
				holdsReplay(t, h, k)
			}
		}
	}
}
