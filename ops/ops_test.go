package ops_test

import (
	"math"
	"math/big"
	"math/rand"
	"slices"
	"strings"
	"testing"
	"unicode/utf8"
	"unsafe"

	"foolscap/api"
	"foolscap/nums"
	"foolscap/ops"
)

// The limits, as the chapters write them out.
const (
	maxText  = 200
	maxCells = 20000
	maxSites = 16
	maxNum   = 1099511627776
)

// list makes spans of pairs of numbers.
func list(numbers ...int) []api.Span {
	var l []api.Span
	for i := 0; i < len(numbers); i += 2 {
		l = append(l, api.Span{From: numbers[i], Len: numbers[i+1]})
	}
	return l
}

// insertion makes an operation that inserts.
func insertion(site, seq, num, at int, text string) api.Op {
	return api.Op{Name: api.Name{Site: site, Seq: seq}, Num: num, Kind: api.Ins, At: at, Text: text}
}

// deletion makes an operation that deletes.
func deletion(site, seq, num int, numbers ...int) api.Op {
	return api.Op{Name: api.Name{Site: site, Seq: seq}, Num: num, Kind: api.Del, Spans: list(numbers...)}
}

// inserting makes an edit that inserts.
func inserting(site, seq, context, at int, text string) api.Edit {
	return api.Edit{Name: api.Name{Site: site, Seq: seq}, Context: context, Kind: api.Ins, At: at, Text: text}
}

// deleting makes an edit that deletes.
func deleting(site, seq, context, at, n int) api.Edit {
	return api.Edit{Name: api.Name{Site: site, Seq: seq}, Context: context, Kind: api.Del, At: at, Len: n}
}

// runesOf tells how many runes a text has, -1 of what is none.
func runesOf(s string) int {
	if !utf8.ValidString(s) {
		return -1
	}
	return utf8.RuneCountInString(s)
}

func mayInsert(s string) bool {
	return runesOf(s) >= 1 && runesOf(s) <= maxText
}

// mayHead follows the chapter's words of what operations and edits have alike.
func mayHead(n api.Name, num int) bool {
	return n.Site >= 1 && n.Site <= maxSites && n.Seq >= 1 && n.Seq <= maxNum && num >= 0 && num <= maxNum
}

// need tells upon which sizes an operation may be, by the chapter's words: from the one to the other; none, if that is less.
func need(op api.Op) (int, int) {
	if !mayHead(op.Name, op.Num) {
		return 0, -1
	}
	switch op.Kind {
	case 1:
		if mayInsert(op.Text) && len(op.Spans) == 0 && op.At >= 0 {
			return op.At, maxCells - runesOf(op.Text)
		}
	case 2:
		if op.At == 0 && op.Text == "" {
			return end(op.Spans), maxCells
		}
	}
	return 0, -1
}

// end tells where a list of spans ends; far behind all, if it may not be.
func end(l []api.Span) int {
	at := -1
	for _, s := range l {
		if s.From <= at || s.Len < 1 || s.From >= maxCells || s.Len > maxCells-s.From {
			return math.MaxInt
		}
		at = s.From + s.Len
	}
	return max(at, 0)
}

// mayUpon tells whether an operation may be upon a size.
func mayUpon(op api.Op, size int) bool {
	from, to := need(op)
	return from <= size && size <= to
}

// mayEver tells whether an operation may be upon any size.
func mayEver(op api.Op) bool {
	from, to := need(op)
	return from <= to
}

// mayEdit follows the chapter's words.
func mayEdit(e api.Edit) bool {
	if !mayHead(e.Name, e.Context) || e.At < 0 || e.At > maxCells {
		return false
	}
	switch e.Kind {
	case 1:
		return e.Len == 0 && mayInsert(e.Text)
	case 2:
		return e.Len >= 1 && e.Len <= maxCells && e.Text == ""
	}
	return false
}

// digits follows chapter 3's words: digits of seven bits, the lowest first.
func digits(n *big.Int) string {
	var s []byte
	rest := new(big.Int).Set(n)
	for {
		digit := new(big.Int)
		rest.DivMod(rest, big.NewInt(128), digit)
		if rest.Sign() == 0 {
			return string(append(s, byte(digit.Int64())))
		}
		s = append(s, byte(digit.Int64()+128))
	}
}

// row tells the bytes of numbers, from 0 on, one behind the other.
func row(numbers ...int) string {
	var b strings.Builder
	for _, n := range numbers {
		b.WriteString(digits(big.NewInt(int64(n))))
	}
	return b.String()
}

// bytesOf tells an operation's bytes by the chapter's words, whatever its fields, from 0 on.
func bytesOf(op api.Op) string {
	s := row(op.Name.Site, op.Name.Seq, op.Num, op.Kind)
	switch op.Kind {
	case 1:
		return s + row(op.At, len(op.Text)) + op.Text
	case 2:
		numbers := []int{len(op.Spans)}
		for _, x := range op.Spans {
			numbers = append(numbers, x.From, x.Len)
		}
		return s + row(numbers...)
	}
	return s
}

// bytesOfEdit tells an edit's bytes by the chapter's words, whatever its fields, from 0 on.
func bytesOfEdit(e api.Edit) string {
	s := row(e.Name.Site, e.Name.Seq, e.Context, e.Kind)
	switch e.Kind {
	case 1:
		return s + row(e.At, len(e.Text)) + e.Text
	case 2:
		return s + row(e.At, e.Len)
	}
	return s
}

// model goes along bytes by the chapters' words alone.
type model struct {
	rest  string
	fault api.Errno
}

// num tells the number that stands next, or its first fault.
func (m *model) num(most int64) int {
	if m.fault != api.OK {
		return 0
	}
	ten := []byte(m.rest[:min(len(m.rest), 10)])
	last := slices.IndexFunc(ten, func(b byte) bool { return b < 128 })
	if last < 0 {
		m.fault = api.ErrShort
		if len(ten) == 10 {
			m.fault = api.ErrForm
		}
		return 0
	}
	n := new(big.Int)
	for i := last; i >= 0; i-- {
		n.Mul(n, big.NewInt(128)).Add(n, big.NewInt(int64(m.rest[i]%128)))
	}
	if !n.IsUint64() || m.rest[last] == 0 && last > 0 || n.Cmp(big.NewInt(most)) > 0 {
		m.fault = api.ErrForm
		return 0
	}
	m.rest = m.rest[last+1:]
	return int(n.Int64())
}

// text tells the row that stands next; of one that faults nothing is passed.
func (m *model) text(most int64) string {
	from := m.rest
	n := m.num(most)
	if m.fault == api.OK && n > len(m.rest) {
		m.fault = api.ErrShort
	}
	if m.fault != api.OK {
		m.rest = from
		return ""
	}
	s := m.rest[:n]
	m.rest = m.rest[n:]
	return s
}

// head reads what operations and edits have alike.
func (m *model) head() (name api.Name, num, kind int) {
	name.Site = m.num(maxSites)
	name.Seq = m.num(maxNum)
	num = m.num(maxNum)
	kind = m.num(2)
	return name, num, kind
}

// get follows the chapter's words.
func (m *model) get() (api.Op, bool) {
	var op api.Op
	op.Name, op.Num, op.Kind = m.head()
	switch op.Kind {
	case 1:
		op.At = m.num(maxCells)
		op.Text = m.text(800)
	case 2:
		for range m.num(maxCells) {
			from := m.num(maxCells)
			op.Spans = append(op.Spans, api.Span{From: from, Len: m.num(maxCells)})
		}
	}
	if m.fault != api.OK || !mayEver(op) {
		return api.Op{}, false
	}
	return op, true
}

// getEdit follows the chapter's words.
func (m *model) getEdit() (api.Edit, bool) {
	var e api.Edit
	e.Name, e.Context, e.Kind = m.head()
	switch e.Kind {
	case 1:
		e.At = m.num(maxCells)
		e.Text = m.text(800)
	case 2:
		e.At = m.num(maxCells)
		e.Len = m.num(maxCells)
	}
	if m.fault != api.OK || !mayEdit(e) {
		return api.Edit{}, false
	}
	return e, true
}

// alike tells whether all fields of two operations are, one by one.
func alike(a, b api.Op) bool {
	if len(a.Spans) != len(b.Spans) {
		return false
	}
	for i := range a.Spans {
		if a.Spans[i].From != b.Spans[i].From || a.Spans[i].Len != b.Spans[i].Len {
			return false
		}
	}
	return a.Name.Site == b.Name.Site && a.Name.Seq == b.Name.Seq && a.Num == b.Num && a.Kind == b.Kind && a.At == b.At && a.Text == b.Text
}

// few are the bytes of a text, if they aren't too many to be told.
func few(s string) []byte {
	return []byte(s[:min(len(s), 60)])
}

// short is an operation with no more than can be told.
func short(op api.Op) api.Op {
	op.Text = op.Text[:min(len(op.Text), 40)]
	op.Spans = op.Spans[:min(len(op.Spans), 9)]
	return op
}

// holds checks what is got of bytes, both ways, against the model: the answer, how many bytes are left and the fault.
func holds(t *testing.T, s string) {
	t.Helper()
	r, m := nums.Read(s), &model{rest: s}
	got, ok := ops.Get(r)
	want, wanted := m.get()
	if ok != wanted || !alike(got, want) || r.Left() != len(m.rest) || r.Fault() != m.fault {
		t.Fatalf("Get(%d): %v, %v, left %d, fault %d; not %v, %v, %d, %d", few(s), short(got), ok, r.Left(), r.Fault(), short(want), wanted, len(m.rest), m.fault)
	}
	r, m = nums.Read(s), &model{rest: s}
	edit, ok := ops.GetEdit(r)
	wantEdit, wanted := m.getEdit()
	if ok != wanted || edit != wantEdit || r.Left() != len(m.rest) || r.Fault() != m.fault {
		t.Fatalf("GetEdit(%d): %v, %v, left %d, fault %d; not %v, %v, %d, %d", few(s), edit, ok, r.Left(), r.Fault(), wantEdit, wanted, len(m.rest), m.fault)
	}
}

// names are ordinary ones, the least and the greatest, and such as may not be.
func names() []api.Name {
	var l []api.Name
	for _, site := range []int{math.MinInt, -1, 0, 1, 2, 9, 15, 16, 17, math.MaxInt} {
		for _, seq := range []int{math.MinInt, -1, 0, 1, 2, 300, maxNum - 1, maxNum, maxNum + 1, math.MaxInt} {
			l = append(l, api.Name{Site: site, Seq: seq})
		}
	}
	return l
}

// counts are numbers of any meaning at the limits of what counts cells, and beside them.
var counts = []int{math.MinInt, -maxCells, -1, 0, 1, 2, 5, 199, 200, 201, maxCells - 201, maxCells - 200, maxCells - 199, maxCells - 3, maxCells - 2, maxCells - 1, maxCells, maxCells + 1, maxCells + 2, maxNum, math.MaxInt - 1, math.MaxInt}

// numbers are those at the limits of what numbers edits, and beside them.
var numbers = []int{math.MinInt, -maxNum, -1, 0, 1, 2, 127, 128, 1 << 32, maxNum - 1, maxNum, maxNum + 1, math.MaxInt}

// texts are of runes of one byte and of more, at the limits of how many, and such as are none.
var texts = []string{
	"", "a", "ab", "hello, world", "\x00", "\n", "\u00e9", "\u20ac", "\U0001f642", "\U0010ffff", "\ufffd", "a\u00e9\u20ac\U0001f642",
	strings.Repeat("a", 127), strings.Repeat("a", 128), strings.Repeat("x", 199), strings.Repeat("x", 200), strings.Repeat("x", 201), strings.Repeat("x", 800), strings.Repeat("x", 801),
	strings.Repeat("\u00e9", 200), strings.Repeat("\u00e9", 201), strings.Repeat("\u20ac", 200), strings.Repeat("\u20ac", 201), strings.Repeat("\U0001f642", 199), strings.Repeat("\U0001f642", 200), strings.Repeat("\U0001f642", 201), "a" + strings.Repeat("\U0001f642", 199), "a" + strings.Repeat("\U0001f642", 200), strings.Repeat("x", 20001),
	"\xc3", "\x80", "\xff", "a\xc3", "\xc3a", "ab\x80c", "\xed\xa0\x80", "\xc0\x80", "\xf4\x90\x80\x80", strings.Repeat("x", 199) + "\xff", strings.Repeat("\U0001f642", 200)[1:], strings.Repeat("\U0001f642", 200)[:799],
}

// each is the list of every other place from one on.
func each(from int) []api.Span {
	var l []api.Span
	for p := from; p < maxCells; p += 2 {
		l = append(l, api.Span{From: p, Len: 1})
	}
	return l
}

// sets are lists of no, one and several spans, and such as may not be.
var sets = [][]api.Span{
	nil, {}, list(0, 1), list(0, 5), list(1, 3), list(4, 1), list(2, 4), list(0, 1, 2, 1), list(0, 2, 4, 1), list(1, 1, 3, 1, 5, 1), list(0, 1, 199, 1), list(19999, 1), list(19998, 1), list(0, 20000), list(0, 19999), list(1, 19999), list(0, 1, 19999, 1), list(0, 9999, 10000, 10000), each(0), each(1),
	list(0, 0), list(5, 0), list(20000, 0), list(20000, 1), list(19999, 2), list(0, 20001), list(-1, 1), list(-1, 2), list(0, -1), list(5, -1), list(0, 1, 1, 1), list(0, 2, 1, 1), list(2, 1, 0, 1), list(2, 1, 2, 1), list(0, 1, 3, 0), list(0, 1, 3, -1), list(0, 1, 19999, 2), list(0, 1, 20000, 1),
	list(math.MaxInt, 1), list(1, math.MaxInt), list(math.MinInt, 1), list(math.MaxInt, math.MaxInt), list(1, math.MinInt), append(each(0), list(20000, 1)...), append(each(1), list(1, 1)...),
}

// kinds are those that are, and others.
var kinds = []int{math.MinInt, -2, -1, 0, 1, 2, 3, 4, 257, 258, math.MaxInt}

// some are operations that may be upon some size.
func some() []api.Op {
	var l []api.Op
	for _, op := range many() {
		if mayEver(op) {
			l = append(l, op)
		}
	}
	return l
}

// many are operations of which each differs in few fields from one that may be, such as may not be too.
func many() []api.Op {
	var l []api.Op
	begins := []api.Op{insertion(1, 2, 7, 3, "ab"), deletion(3, 5, 0, 1, 3)}
	for _, op := range begins {
		for _, name := range names() {
			op.Name = name
			l = append(l, op)
		}
	}
	for _, op := range begins {
		for _, num := range numbers {
			op.Num = num
			l = append(l, op)
		}
	}
	for _, op := range begins {
		for _, kind := range kinds {
			op.Kind = kind
			l = append(l, op)
			op.At, op.Text, op.Spans = 0, "", nil
			l = append(l, op)
		}
	}
	for _, at := range counts {
		for _, text := range texts {
			l = append(l, insertion(16, maxNum, maxNum, at, text))
		}
		l = append(l, deletion(2, 2, 2, 0, 2))
		l[len(l)-1].At = at
	}
	for _, set := range sets {
		l = append(l, deletion(1, 1, 1), insertion(1, 1, 1, 5, "ab"))
		l[len(l)-2].Spans, l[len(l)-1].Spans = set, set
	}
	for _, text := range texts {
		l = append(l, deletion(1, 1, 1, 0, 1), deletion(1, 1, 1))
		l[len(l)-2].Text, l[len(l)-1].Text = text, text
	}
	return append(l, api.Op{})
}

// someEdits are edits that may be.
func someEdits() []api.Edit {
	return slices.DeleteFunc(manyEdits(), func(e api.Edit) bool { return !mayEdit(e) })
}

// manyEdits are edits of which each differs in few fields from one that may be, such as may not be too.
func manyEdits() []api.Edit {
	var l []api.Edit
	begins := []api.Edit{inserting(1, 2, 7, 3, "ab"), deleting(3, 5, 0, 4, 9)}
	for _, e := range begins {
		for _, name := range names() {
			e.Name = name
			l = append(l, e)
		}
	}
	for _, e := range begins {
		for _, context := range numbers {
			e.Context = context
			l = append(l, e)
		}
	}
	for _, e := range begins {
		for _, kind := range kinds {
			e.Kind = kind
			l = append(l, e)
			e.At, e.Len, e.Text = 0, 0, ""
			l = append(l, e)
		}
	}
	for _, at := range counts {
		for _, text := range texts {
			l = append(l, inserting(16, maxNum, maxNum, at, text))
		}
		for _, n := range counts {
			l = append(l, deleting(16, maxNum, maxNum, at, n))
		}
	}
	for _, n := range counts {
		l = append(l, inserting(1, 1, 1, 5, "ab"))
		l[len(l)-1].Len = n
	}
	for _, text := range texts {
		l = append(l, deleting(1, 1, 1, 5, 2), deleting(1, 1, 1, 0, 0))
		l[len(l)-2].Text, l[len(l)-1].Text = text, text
	}
	return append(l, api.Edit{})
}

// The chapter's examples.
func TestExamples(t *testing.T) {
	if !ops.May(insertion(1, 2, 7, 5, "ab"), 5) || ops.May(insertion(1, 2, 7, 6, "ab"), 5) {
		t.Error("at 5, at 6")
	}
	if s, e := ops.Put(insertion(1, 2, 7, 3, "ab")); s != "\x01\x02\x07\x01\x03\x02ab" || e != api.OK {
		t.Error(few(s), e)
	}
	if !ops.Before(api.Op{Num: 7}, api.Op{}) {
		t.Error("7 isn't before 0")
	}
}

// P8.1: as they are written out.
func TestMay(t *testing.T) {
	two, most := strings.Repeat("\u20ac", 2), strings.Repeat("\U0001f642", 200)
	for _, x := range []struct {
		op   api.Op
		size int
		want bool
	}{
		{insertion(1, 1, 0, 0, "a"), 0, true}, {insertion(1, 1, 0, 0, "a"), -1, false}, {insertion(1, 1, 0, 0, "a"), 19999, true}, {insertion(1, 1, 0, 0, "a"), 20000, false}, {insertion(1, 1, 0, 0, "a"), 20001, false}, {insertion(1, 1, 0, -1, "a"), 5, false}, {insertion(1, 1, 0, -1, "a"), -1, false}, {insertion(1, 1, 0, 1, "a"), 0, false},
		{insertion(1, 1, 0, 20000, "a"), 20000, false}, {insertion(1, 1, 0, 20001, "a"), 20001, false}, {insertion(1, 1, 0, 19999, "a"), 19999, true}, {insertion(1, 1, 0, 19998, two), 19998, true}, {insertion(1, 1, 0, 19998, two), 19999, false}, {insertion(1, 1, 0, 3, two), 19998, true},
		{insertion(1, 1, 0, 19800, most), 19800, true}, {insertion(1, 1, 0, 0, most), 19801, false}, {insertion(1, 1, 0, 19801, most), 19801, false}, {insertion(1, 1, 0, 0, most+"a"), 0, false}, {insertion(1, 1, 0, 0, ""), 0, false}, {insertion(1, 1, 0, 0, ""), 20000, false}, {insertion(1, 1, 0, 0, "\xff"), 5, false}, {insertion(1, 1, 0, 0, "a\xc3"), 5, false},
		{insertion(1, 1, maxNum, 0, "a"), 5, true}, {insertion(1, 1, maxNum+1, 0, "a"), 5, false}, {insertion(1, 1, -1, 0, "a"), 5, false}, {insertion(16, maxNum, 0, 0, "a"), 5, true}, {insertion(17, 1, 0, 0, "a"), 5, false}, {insertion(0, 1, 0, 0, "a"), 5, false}, {insertion(1, 0, 0, 0, "a"), 5, false}, {insertion(1, maxNum+1, 0, 0, "a"), 5, false},
		{deletion(1, 1, 0), 0, true}, {deletion(1, 1, 0), 20000, true}, {deletion(1, 1, 0), -1, false}, {deletion(1, 1, 0), 20001, false}, {deletion(1, 1, 0, 0, 1), 0, false}, {deletion(1, 1, 0, 0, 1), 1, true}, {deletion(1, 1, 0, 2, 3), 5, true}, {deletion(1, 1, 0, 2, 3), 4, false}, {deletion(1, 1, 0, 0, 2, 4, 1), 5, true}, {deletion(1, 1, 0, 0, 2, 4, 1), 4, false}, {deletion(1, 1, 0, 0, 2, 4, 1), 2, false},
		{deletion(1, 1, 0, 19999, 1), 20000, true}, {deletion(1, 1, 0, 19999, 1), 19999, false}, {deletion(1, 1, 0, 0, 20000), 20000, true}, {deletion(1, 1, 0, 0, 20001), 20000, false}, {deletion(1, 1, 0, 0, 20001), 20001, false}, {deletion(1, 1, 0, 0, 1, 1, 1), 5, false}, {deletion(1, 1, 0, 3, 1, 0, 1), 5, false}, {deletion(1, 1, 0, 2, 0), 5, false}, {deletion(1, 1, 0, -1, 1), 5, false},
		{deletion(1, 1, maxNum), 5, true}, {deletion(1, 1, maxNum+1), 5, false}, {deletion(1, 1, -1), 5, false}, {deletion(16, maxNum, 0), 5, true}, {deletion(17, 1, 0), 5, false}, {deletion(0, 1, 0), 5, false}, {deletion(1, 0, 0), 5, false},
		{api.Op{Name: api.Name{Site: 1, Seq: 1}, Kind: api.Ins, Text: "a", Spans: list(0, 1)}, 5, false}, {api.Op{Name: api.Name{Site: 1, Seq: 1}, Kind: api.Ins, Text: "a", Spans: []api.Span{}}, 5, true}, {api.Op{Name: api.Name{Site: 1, Seq: 1}, Kind: api.Ins, Text: "a", Spans: list(0, 0)}, 5, false},
		{api.Op{Name: api.Name{Site: 1, Seq: 1}, Kind: api.Del, At: 1}, 5, false}, {api.Op{Name: api.Name{Site: 1, Seq: 1}, Kind: api.Del, At: -1}, 5, false}, {api.Op{Name: api.Name{Site: 1, Seq: 1}, Kind: api.Del, Text: "a"}, 5, false}, {api.Op{Name: api.Name{Site: 1, Seq: 1}, Kind: api.Del, Text: "\xff"}, 5, false},
		{api.Op{Name: api.Name{Site: 1, Seq: 1}}, 5, false}, {api.Op{Name: api.Name{Site: 1, Seq: 1}, Text: "a"}, 5, false}, {api.Op{Name: api.Name{Site: 1, Seq: 1}, Kind: 3}, 5, false}, {api.Op{Name: api.Name{Site: 1, Seq: 1}, Kind: 3, Text: "a"}, 5, false}, {api.Op{}, 0, false},
	} {
		if got := ops.May(x.op, x.size); got != x.want {
			t.Errorf("May(%v, %d): %v", short(x.op), x.size, got)
		}
	}
}

// sizes are those at the limits, and those at the edges of an operation.
func sizes(op api.Op) []int {
	l := append(slices.Clone(counts), op.At-1, op.At, op.At+1)
	if n := runesOf(op.Text); n >= 0 {
		l = append(l, maxCells-n-1, maxCells-n, maxCells-n+1)
	}
	for _, s := range op.Spans[max(0, len(op.Spans)-2):] {
		l = append(l, s.From, s.From+s.Len-1, s.From+s.Len, s.From+s.Len+1)
	}
	return l
}

// P8.1: of many operations upon many sizes.
func TestMayEach(t *testing.T) {
	for _, op := range many() {
		for _, size := range sizes(op) {
			if got := ops.May(op, size); got != mayUpon(op, size) {
				t.Fatalf("May(%v, %d): %v", short(op), size, got)
			}
		}
	}
	for _, op := range []api.Op{insertion(1, 1, 1, 0, "a"), insertion(1, 1, 1, 7000, "abc"), insertion(1, 1, 1, 19800, strings.Repeat("\u00e9", 200)), deletion(1, 1, 1), deletion(1, 1, 1, 0, 1), deletion(1, 1, 1, 4, 5, 9000, 3), deletion(1, 1, 1, 19999, 1)} {
		for size := -2; size < maxCells+3; size++ {
			if got := ops.May(op, size); got != mayUpon(op, size) {
				t.Fatalf("May(%v, %d): %v", short(op), size, got)
			}
		}
	}
}

// P8.1
func TestAdds(t *testing.T) {
	for _, op := range many() {
		want := 0
		if op.Kind == 1 {
			want = max(0, runesOf(op.Text))
		}
		if got := ops.Adds(op); got != want {
			t.Errorf("Adds(%v): %d, not %d", short(op), got, want)
		}
	}
	for _, x := range []struct {
		kind int
		text string
		want int
	}{{api.Ins, "abc", 3}, {api.Ins, "a\u00e9\u20ac\U0001f642", 4}, {api.Ins, "", 0}, {api.Ins, "ab\xff", 0}, {api.Ins, strings.Repeat("\u20ac", 201), 201}, {api.Del, "abc", 0}, {0, "abc", 0}, {3, "abc", 0}, {-1, "abc", 0}} {
		if got := ops.Adds(api.Op{Kind: x.kind, Text: x.text}); got != x.want {
			t.Errorf("Adds(%d, %q): %d", x.kind, few(x.text), got)
		}
	}
}

// P8.1: operations that are unlike in just one field, or in one span.
func TestSame(t *testing.T) {
	op := api.Op{Name: api.Name{Site: 2, Seq: 3}, Num: 4, Kind: 1, At: 5, Text: "ab", Spans: list(1, 2, 5, 6)}
	if !ops.Same(op, op) || !ops.Same(op, api.Op{Name: api.Name{Site: 2, Seq: 3}, Num: 4, Kind: 1, At: 5, Text: strings.Clone("ab"), Spans: list(1, 2, 5, 6)}) || !ops.Same(api.Op{}, api.Op{}) {
		t.Error("what is the same isn't")
	}
	for i, change := range []func(o *api.Op){
		func(o *api.Op) { o.Name.Site = 3 }, func(o *api.Op) { o.Name.Seq = 2 }, func(o *api.Op) { o.Name = api.Name{Site: 3, Seq: 2} }, func(o *api.Op) { o.Num = 0 }, func(o *api.Op) { o.Num = -4 }, func(o *api.Op) { o.Kind = 2 }, func(o *api.Op) { o.Kind = 0 }, func(o *api.Op) { o.At = 4 }, func(o *api.Op) { o.At = 0 },
		func(o *api.Op) { o.Text = "" }, func(o *api.Op) { o.Text = "a" }, func(o *api.Op) { o.Text = "abc" }, func(o *api.Op) { o.Text = "ba" }, func(o *api.Op) { o.Text = "a\xff" },
		func(o *api.Op) { o.Spans = nil }, func(o *api.Op) { o.Spans = list(1, 2) }, func(o *api.Op) { o.Spans = list(5, 6) }, func(o *api.Op) { o.Spans = list(1, 2, 5, 6, 9, 1) }, func(o *api.Op) { o.Spans = list(5, 6, 1, 2) },
		func(o *api.Op) { o.Spans = list(0, 2, 5, 6) }, func(o *api.Op) { o.Spans = list(1, 1, 5, 6) }, func(o *api.Op) { o.Spans = list(1, 2, 4, 6) }, func(o *api.Op) { o.Spans = list(1, 2, 5, 5) }, func(o *api.Op) { o.Spans = list(1, 2, 5, 6, 0, 0) },
	} {
		other := op
		change(&other)
		if ops.Same(op, other) || ops.Same(other, op) {
			t.Errorf("change %d: the same", i)
		}
	}
	none, empty := deletion(1, 1, 1), deletion(1, 1, 1)
	empty.Spans = []api.Span{}
	if !ops.Same(none, empty) || !ops.Same(empty, none) {
		t.Error("nil and empty are two")
	}
}

// P8.1: of any two.
func TestSameEach(t *testing.T) {
	l := many()
	for i, a := range l {
		for k := range 40 {
			b := l[(i+k*k*k)%len(l)]
			if got := ops.Same(a, b); got != alike(a, b) {
				t.Fatalf("Same(%v, %v): %v", short(a), short(b), got)
			}
		}
	}
}

// of makes an operation of which Before may ask.
func of(num, site, seq int) api.Op {
	return api.Op{Num: num, Name: api.Name{Site: site, Seq: seq}}
}

// P8.1: as they are written out.
func TestBefore(t *testing.T) {
	for _, x := range []struct {
		a, b api.Op
		want bool
	}{
		{of(7, 1, 1), of(0, 1, 1), true}, {of(0, 1, 1), of(7, 1, 1), false}, {of(7, 9, 9), of(0, 1, 1), true}, {of(0, 1, 1), of(7, 9, 9), false}, {of(maxNum, 2, 2), of(0, 1, 1), true}, {of(0, 1, 1), of(maxNum, 2, 2), false}, {of(math.MaxInt, 2, 2), of(0, 1, 1), true}, {of(0, 1, 1), of(math.MaxInt, 2, 2), false},
		{of(1, 9, 9), of(2, 1, 1), true}, {of(2, 1, 1), of(1, 9, 9), false}, {of(9, 9, 9), of(10, 1, 1), true}, {of(10, 1, 1), of(9, 1, 1), false},
		{of(0, 1, 2), of(0, 2, 1), true}, {of(0, 2, 1), of(0, 1, 2), false}, {of(0, 1, 1), of(0, 1, 2), true}, {of(0, 1, 2), of(0, 1, 1), false}, {of(0, 1, 9), of(0, 1, 10), true}, {of(0, 1, 1), of(0, 1, 1), false},
		{of(5, 1, 2), of(5, 2, 1), true}, {of(5, 2, 1), of(5, 1, 2), false}, {of(5, 1, 1), of(5, 1, 2), true}, {of(5, 1, 2), of(5, 1, 1), false}, {of(5, 1, 1), of(5, 1, 1), false},
		{of(-1, 1, 1), of(1, 1, 1), true}, {of(1, 1, 1), of(-1, 1, 1), false}, {of(-1, 1, 1), of(0, 1, 1), true}, {of(0, 1, 1), of(-1, 1, 1), false}, {of(math.MinInt, 1, 1), of(math.MaxInt, 1, 1), true}, {of(math.MaxInt, 1, 1), of(math.MinInt, 1, 1), false},
	} {
		if got := ops.Before(x.a, x.b); got != x.want {
			t.Errorf("Before(%v, %v): %v", x.a, x.b, got)
		}
	}
	// Nothing but the number and the name is asked for.
	a, b := insertion(1, 1, 5, 9, "z"), deletion(1, 2, 5, 0, 1)
	if !ops.Before(a, b) || ops.Before(b, a) {
		t.Error(a, b)
	}
}

// rank tells a number by which operations stand before others: their number, 0 above all, then their site, then their Seq.
func rank(op api.Op) *big.Int {
	x := big.NewInt(int64(op.Num))
	if op.Num == 0 {
		x.Lsh(big.NewInt(1), 64)
	}
	x.Lsh(x, 70).Add(x, big.NewInt(int64(op.Name.Site)))
	return x.Lsh(x, 70).Add(x, big.NewInt(int64(op.Name.Seq)))
}

// P8.1, P8.4: of any two; of unlike names one is before the other one, and so it is through others.
func TestBeforeEach(t *testing.T) {
	var l []api.Op
	for _, num := range []int{math.MinInt, -1, 0, 1, 2, 7, maxNum, maxNum + 1, math.MaxInt} {
		for _, site := range []int{math.MinInt, -1, 0, 1, 2, 16, math.MaxInt} {
			for _, seq := range []int{math.MinInt, 0, 1, 2, maxNum, math.MaxInt} {
				l = append(l, of(num, site, seq))
			}
		}
	}
	for _, a := range l {
		for _, b := range l {
			got := ops.Before(a, b)
			if got != (rank(a).Cmp(rank(b)) < 0) {
				t.Fatalf("Before(%v, %v): %v", a, b, got)
			}
			if a.Name != b.Name && got == ops.Before(b, a) {
				t.Fatalf("%v and %v: neither is before the other one, or both are", a, b)
			}
		}
	}
	r := rand.New(rand.NewSource(8))
	for range 200000 {
		a, b, c := l[r.Intn(len(l))], l[r.Intn(len(l))], l[r.Intn(len(l))]
		if ops.Before(a, b) && ops.Before(b, c) && !ops.Before(a, c) {
			t.Fatalf("%v before %v before %v", a, b, c)
		}
	}
}

// P8.2: bytes as they are written out.
func TestPut(t *testing.T) {
	x800 := strings.Repeat("\U0001f642", 200)
	for _, x := range []struct {
		op   api.Op
		want string
	}{
		{insertion(1, 2, 0, 0, "a"), "\x01\x02\x00\x01\x00\x01a"}, {insertion(16, 300, 128, 5, "\u00e9"), "\x10\xac\x02\x80\x01\x01\x05\x02\xc3\xa9"}, {insertion(1, 2, 7, 200, "ab"), "\x01\x02\x07\x01\xc8\x01\x02ab"}, {insertion(1, 2, 7, 3, x800), "\x01\x02\x07\x01\x03\xa0\x06" + x800},
		{insertion(16, maxNum, maxNum, 19999, "z"), "\x10\x80\x80\x80\x80\x80\x20\x80\x80\x80\x80\x80\x20\x01\x9f\x9c\x01\x01z"},
		{deletion(1, 2, 7), "\x01\x02\x07\x02\x00"}, {deletion(2, 1, 0, 1, 3), "\x02\x01\x00\x02\x01\x01\x03"}, {deletion(2, 1, 0, 1, 3, 5, 1, 300, 200), "\x02\x01\x00\x02\x03\x01\x03\x05\x01\xac\x02\xc8\x01"}, {deletion(3, 1, 9, 0, 20000), "\x03\x01\x09\x02\x01\x00\xa0\x9c\x01"}, {deletion(3, 1, 9, 19999, 1), "\x03\x01\x09\x02\x01\x9f\x9c\x01\x01"},
	} {
		if got, e := ops.Put(x.op); got != x.want || e != api.OK {
			t.Errorf("Put(%v): %d, %d", short(x.op), few(got), e)
		}
		if op, ok := ops.Get(nums.Read(x.want)); !ok || !alike(op, x.op) {
			t.Errorf("Get(%d): %v, %v", few(x.want), short(op), ok)
		}
	}
}

// P8.2: of what may be upon some size its bytes, of all else nothing.
func TestPutEach(t *testing.T) {
	put := 0
	for _, op := range many() {
		want, e := "", api.ErrArg
		if mayEver(op) {
			want, e = bytesOf(op), api.OK
			put++
		}
		if got, err := ops.Put(op); got != want || err != e {
			t.Fatalf("Put(%v): %d, %d", short(op), few(got), err)
		}
	}
	if put < 100 {
		t.Error(put, "may be")
	}
}

// P8.2: one that may be upon any size may be upon just the sizes that the model says, and upon one at least.
func TestAnySize(t *testing.T) {
	for _, op := range []api.Op{
		insertion(1, 1, 1, 0, "a"), insertion(1, 1, 1, 19999, "a"), insertion(1, 1, 1, 20000, "a"), insertion(1, 1, 1, 19998, "ab"), insertion(1, 1, 1, 19999, "ab"), insertion(1, 1, 1, 19800, strings.Repeat("\u20ac", 200)), insertion(1, 1, 1, 19801, strings.Repeat("\u20ac", 200)), insertion(1, 1, 1, -1, "a"), insertion(1, 1, 1, 20001, "a"), insertion(1, 1, 1, 0, ""),
		deletion(1, 1, 1), deletion(1, 1, 1, 0, 20000), deletion(1, 1, 1, 19999, 1), deletion(1, 1, 1, 19999, 2), deletion(1, 1, 1, 20000, 1), deletion(1, 1, 1, 1, 0), {Name: api.Name{Site: 1, Seq: 1}},
	} {
		found := false
		for size := -1; size < maxCells+2; size++ {
			found = found || ops.May(op, size)
		}
		s, e := ops.Put(op)
		if found != mayEver(op) || (e == api.OK) != found || (s == "") == found {
			t.Errorf("%v: upon some size %v, put %d, %d", short(op), found, few(s), e)
		}
		if op.At < 0 {
			continue // it has no bytes
		}
		if got, ok := ops.Get(nums.Read(bytesOf(op))); ok != found || ok != alike(got, op) {
			t.Errorf("%v: got %v, %v", short(op), short(got), ok)
		}
	}
}

// P8.3: as they are written out.
func TestMayEdit(t *testing.T) {
	most := strings.Repeat("\U0001f642", 200)
	for _, x := range []struct {
		e    api.Edit
		want bool
	}{
		{inserting(1, 1, 0, 0, "a"), true}, {inserting(16, maxNum, maxNum, 20000, most), true}, {inserting(1, 1, 0, 20001, "a"), false}, {inserting(1, 1, 0, -1, "a"), false}, {inserting(1, 1, -1, 0, "a"), false}, {inserting(1, 1, maxNum+1, 0, "a"), false}, {inserting(1, 1, 0, 0, ""), false}, {inserting(1, 1, 0, 0, most+"a"), false}, {inserting(1, 1, 0, 0, "\xff"), false}, {inserting(1, 1, 0, 0, "a\xc3"), false},
		{inserting(0, 1, 0, 0, "a"), false}, {inserting(17, 1, 0, 0, "a"), false}, {inserting(1, 0, 0, 0, "a"), false}, {inserting(1, maxNum+1, 0, 0, "a"), false}, {inserting(-1, -1, 0, 0, "a"), false},
		{deleting(1, 1, 0, 0, 1), true}, {deleting(16, maxNum, maxNum, 20000, 20000), true}, {deleting(1, 1, 0, 0, 0), false}, {deleting(1, 1, 0, 0, -1), false}, {deleting(1, 1, 0, 0, 20001), false}, {deleting(1, 1, 0, -1, 1), false}, {deleting(1, 1, 0, 20001, 1), false}, {deleting(1, 1, -1, 0, 1), false}, {deleting(1, 1, maxNum+1, 0, 1), false}, {deleting(0, 1, 0, 0, 1), false}, {deleting(1, 0, 0, 0, 1), false},
		{api.Edit{Name: api.Name{Site: 1, Seq: 1}, Kind: api.Ins, Text: "a", Len: 1}, false}, {api.Edit{Name: api.Name{Site: 1, Seq: 1}, Kind: api.Ins, Text: "a", Len: -1}, false}, {api.Edit{Name: api.Name{Site: 1, Seq: 1}, Kind: api.Del, Text: "a", Len: 1}, false}, {api.Edit{Name: api.Name{Site: 1, Seq: 1}, Kind: api.Del, Text: "\xff", Len: 1}, false}, {api.Edit{Name: api.Name{Site: 1, Seq: 1}, Kind: api.Del, Text: "a"}, false},
		{api.Edit{Name: api.Name{Site: 1, Seq: 1}, Text: "a"}, false}, {api.Edit{Name: api.Name{Site: 1, Seq: 1}, Len: 1}, false}, {api.Edit{Name: api.Name{Site: 1, Seq: 1}}, false}, {api.Edit{Name: api.Name{Site: 1, Seq: 1}, Kind: 3, Text: "a"}, false}, {api.Edit{Name: api.Name{Site: 1, Seq: 1}, Kind: 3, Len: 1}, false}, {api.Edit{}, false},
	} {
		if got := ops.MayEdit(x.e); got != x.want {
			t.Errorf("MayEdit(%v): %v", x.e, got)
		}
	}
}

// P8.3: bytes as they are written out.
func TestPutEdit(t *testing.T) {
	x800 := strings.Repeat("\U0001f642", 200)
	for _, x := range []struct {
		e    api.Edit
		want string
	}{
		{inserting(1, 2, 7, 3, "ab"), "\x01\x02\x07\x01\x03\x02ab"}, {inserting(16, 300, 128, 20000, "\u20ac"), "\x10\xac\x02\x80\x01\x01\xa0\x9c\x01\x03\xe2\x82\xac"}, {inserting(1, 1, 0, 0, x800), "\x01\x01\x00\x01\x00\xa0\x06" + x800},
		{deleting(1, 2, 7, 3, 4), "\x01\x02\x07\x02\x03\x04"}, {deleting(2, 1, 0, 0, 1), "\x02\x01\x00\x02\x00\x01"}, {deleting(16, maxNum, maxNum, 20000, 20000), "\x10\x80\x80\x80\x80\x80\x20\x80\x80\x80\x80\x80\x20\x02\xa0\x9c\x01\xa0\x9c\x01"},
	} {
		if got, e := ops.PutEdit(x.e); got != x.want || e != api.OK {
			t.Errorf("PutEdit(%v): %d, %d", x.e, few(got), e)
		}
		if e, ok := ops.GetEdit(nums.Read(x.want)); !ok || e != x.e {
			t.Errorf("GetEdit(%d): %v, %v", few(x.want), e, ok)
		}
	}
}

// P8.3: of what may be its bytes, of all else nothing.
func TestPutEditEach(t *testing.T) {
	put := 0
	for _, e := range manyEdits() {
		if got := ops.MayEdit(e); got != mayEdit(e) {
			t.Fatalf("MayEdit(%v): %v", e, got)
		}
		want, errno := "", api.ErrArg
		if mayEdit(e) {
			want, errno = bytesOfEdit(e), api.OK
			put++
		}
		if got, err := ops.PutEdit(e); got != want || err != errno {
			t.Fatalf("PutEdit(%v): %d, %d", e, few(got), err)
		}
	}
	if put < 100 {
		t.Error(put, "may be")
	}
}

// behind is what may stand behind an operation's bytes.
var behind = []string{"", "\x00", "\x01", "\xff", "\x80", "\x01\x02\x07\x01\x03\x02ab", "\xff\xff\xff\xff\xff\xff\xff\xff\xff\xff\xff", strings.Repeat("a", 900)}

// P8.4: what is put is got again, with anything behind it, and the reader stands right behind it.
func TestThereAndBack(t *testing.T) {
	for _, op := range some() {
		s, _ := ops.Put(op)
		for _, more := range behind {
			r := nums.Read(s + more)
			if got, ok := ops.Get(r); !ok || !alike(got, op) || !ops.Same(got, op) || r.Left() != len(more) || r.Fault() != api.OK {
				t.Fatalf("%v: %v, %v, left %d, fault %d", short(op), short(got), ok, r.Left(), r.Fault())
			}
		}
	}
	for _, e := range someEdits() {
		s, _ := ops.PutEdit(e)
		for _, more := range behind {
			r := nums.Read(s + more)
			if got, ok := ops.GetEdit(r); !ok || got != e || r.Left() != len(more) || r.Fault() != api.OK {
				t.Fatalf("%v: %v, %v, left %d, fault %d", e, got, ok, r.Left(), r.Fault())
			}
		}
	}
}

// P8.4: many, one behind the other, operations and edits by turns.
func TestManyInARow(t *testing.T) {
	l, edits := some(), someEdits()
	var b strings.Builder
	for i, op := range l {
		s, _ := ops.Put(op)
		e, _ := ops.PutEdit(edits[i%len(edits)])
		b.WriteString(s + e)
	}
	r := nums.Read(b.String())
	for i, op := range l {
		got, ok := ops.Get(r)
		e, ok2 := ops.GetEdit(r)
		if !ok || !ok2 || !alike(got, op) || e != edits[i%len(edits)] {
			t.Fatalf("%d: %v, %v, %v, %v", i, short(got), ok, e, ok2)
		}
	}
	if r.End() != api.OK {
		t.Error(r.End())
	}
}

// samples are operations and edits as bytes, that are short.
func samples() []string {
	l := []string{
		bytesOf(insertion(1, 2, 7, 3, "ab")), bytesOf(insertion(16, maxNum, maxNum, 19998, "\u00e9a")), bytesOf(insertion(1, 300, 0, 0, "\U0001f642")),
		bytesOf(deletion(1, 2, 7)), bytesOf(deletion(2, 1, 0, 1, 3)), bytesOf(deletion(2, 1, 128, 1, 3, 5, 1, 300, 200)), bytesOf(deletion(16, maxNum, maxNum, 0, 1, 19999, 1)),
		bytesOfEdit(deleting(1, 2, 7, 3, 4)), bytesOfEdit(deleting(16, maxNum, maxNum, 20000, 20000)), bytesOfEdit(inserting(2, 1, 128, 20000, "\u20ac")),
	}
	return l
}

// P8.2, P8.3: bytes that end too early: after each of them, at each field.
func TestCutOff(t *testing.T) {
	for _, s := range samples() {
		for n := range len(s) {
			holds(t, s[:n])
		}
	}
	for _, op := range []api.Op{insertion(1, 2, 7, 3, "ab"), deletion(1, 2, 7), deletion(2, 1, 128, 1, 3, 5, 1, 300, 200)} {
		s := bytesOf(op)
		for n := range len(s) {
			r := nums.Read(s[:n])
			if got, ok := ops.Get(r); ok || !alike(got, api.Op{}) || r.Fault() != api.ErrShort {
				t.Errorf("Get(%d): %v, %v, fault %d", few(s[:n]), got, ok, r.Fault())
			}
		}
	}
	for _, e := range []api.Edit{inserting(1, 2, 7, 3, "ab"), deleting(1, 2, 7, 3, 400)} {
		s := bytesOfEdit(e)
		for n := range len(s) {
			r := nums.Read(s[:n])
			if got, ok := ops.GetEdit(r); ok || got != (api.Edit{}) || r.Fault() != api.ErrShort {
				t.Errorf("GetEdit(%d): %v, %v, fault %d", few(s[:n]), got, ok, r.Fault())
			}
		}
	}
}

// field is one of the numbers that stand in bytes: what is ahead of it, what is behind, the most that it may be, and the most that is read.
type field struct {
	name          string
	ahead, behind string
	may, read     int
	edit          bool
}

// fields are all that operations and edits have, each with all others so that it may be.
func fields() []field {
	ab := "\x02ab"
	return []field{
		{"Site", "", row(2, 7, 1, 3) + ab, maxSites, maxSites, false}, {"Seq", row(1), row(7, 1, 3) + ab, maxNum, maxNum, false}, {"Num", row(1, 2), row(1, 3) + ab, maxNum, maxNum, false}, {"Kind", row(1, 2, 7), row(0), 2, 2, false},
		{"At", row(1, 2, 7, 1), ab, maxCells - 2, maxCells, false}, {"Spans", row(1, 2, 7, 2), "", 0, maxCells, false}, {"From", row(1, 2, 7, 2, 1), row(1), maxCells - 1, maxCells, false}, {"Len", row(1, 2, 7, 2, 1, 0), "", maxCells, maxCells, false}, {"the second From", row(1, 2, 7, 2, 2, 0, 1), row(1), maxCells - 1, maxCells, false}, {"the second Len", row(1, 2, 7, 2, 2, 0, 1, 2), "", maxCells - 2, maxCells, false},
		{"Site", "", row(2, 7, 2, 3, 4), maxSites, maxSites, true}, {"Seq", row(1), row(7, 2, 3, 4), maxNum, maxNum, true}, {"Context", row(1, 2), row(2, 3, 4), maxNum, maxNum, true}, {"Kind", row(1, 2, 7), row(3, 4), 2, 2, true},
		{"At of Ins", row(1, 2, 7, 1), ab, maxCells, maxCells, true}, {"At of Del", row(1, 2, 7, 2), row(4), maxCells, maxCells, true}, {"Len", row(1, 2, 7, 2, 3), "", maxCells, maxCells, true},
	}
}

// get asks for what a field is of: whether it is got, and whether the answer is zero; and the reader.
func (f field) get(s string) (bool, bool, *nums.Reader) {
	r := nums.Read(s)
	if f.edit {
		e, ok := ops.GetEdit(r)
		return ok, e == api.Edit{}, r
	}
	op, ok := ops.Get(r)
	return ok, alike(op, api.Op{}), r
}

// P8.2, P8.3: numbers as great as they may be, and greater ones, at each field.
func TestGreatNumbers(t *testing.T) {
	for _, f := range fields() {
		s := f.ahead + row(f.may) + f.behind
		if ok, zero, r := f.get(s); !ok || zero || r.End() != api.OK {
			t.Errorf("%s of %d: %v, %d", f.name, f.may, ok, r.End())
		}
		holds(t, s)
		for _, n := range []int{f.may + 1, f.read} {
			s = f.ahead + row(n) + f.behind
			if ok, zero, _ := f.get(s); ok != (n <= f.may) || zero == ok {
				t.Errorf("%s of %d: %v", f.name, n, ok)
			}
			holds(t, s)
		}
		greater := []string{row(f.read + 1), row(f.read + 2), row(math.MaxInt), digits(new(big.Int).Lsh(big.NewInt(1), 63)), digits(new(big.Int).SetUint64(math.MaxUint64)), digits(new(big.Int).Lsh(big.NewInt(1), 64)), digits(new(big.Int).Add(big.NewInt(int64(f.may)), new(big.Int).Lsh(big.NewInt(1), 64)))}
		for _, n := range append(greater, "\x80\x00", "\x81\x00", "\x81\x80\x00", strings.Repeat("\x80", 10), strings.Repeat("\xff", 12), strings.Repeat("\x80", 9)+"\x02") {
			s = f.ahead + n + f.behind
			if ok, zero, r := f.get(s); ok || !zero || r.Fault() != api.ErrForm || r.Left() != len(n)+len(f.behind) {
				t.Errorf("%s of the bytes %d: %v, fault %d, left %d", f.name, []byte(n), ok, r.Fault(), r.Left())
			}
			holds(t, s)
		}
	}
}

// P8.2, P8.3: a text of as many bytes as may be, of one more, of one that says more than there is.
func TestTexts(t *testing.T) {
	for _, text := range texts {
		for _, at := range []int{0, 5, maxCells - 200, maxCells} {
			holds(t, bytesOf(insertion(1, 2, 7, at, text)))
			holds(t, bytesOf(insertion(1, 2, 7, at, text))+"behind")
			holds(t, row(1, 2, 7, 1, at, len(text)+1)+text)
			if text != "" {
				holds(t, row(1, 2, 7, 1, at, len(text)-1)+text)
			}
		}
	}
	head := row(1, 2, 7, 1, 3)
	for _, x := range []struct {
		text  string
		ok    bool
		fault api.Errno
	}{{strings.Repeat("\U0001f642", 200), true, api.OK}, {strings.Repeat("x", 200), true, api.OK}, {strings.Repeat("x", 201), false, api.OK}, {strings.Repeat("x", 800), false, api.OK}, {strings.Repeat("x", 801), false, api.ErrForm}, {strings.Repeat("\U0001f642", 200) + "x", false, api.ErrForm}, {"", false, api.OK}, {"\xff", false, api.OK}, {"a\xed\xa0\x80", false, api.OK}} {
		s := head + row(len(x.text)) + x.text
		r := nums.Read(s)
		if op, ok := ops.Get(r); ok != x.ok || r.Fault() != x.fault || alike(op, api.Op{}) == ok {
			t.Errorf("a text of %d bytes: %v, %d", len(x.text), ok, r.Fault())
		}
		r = nums.Read(s)
		if e, ok := ops.GetEdit(r); ok != x.ok || r.Fault() != x.fault || (e == api.Edit{}) == ok {
			t.Errorf("a text of %d bytes: %v, %d", len(x.text), ok, r.Fault())
		}
	}
}

// P8.2: lists of spans that may not be are read to their end, and not told.
func TestLists(t *testing.T) {
	for _, set := range sets {
		if slices.ContainsFunc(set, func(s api.Span) bool { return s.From < 0 || s.Len < 0 }) {
			continue
		}
		op := deletion(1, 2, 7)
		op.Spans = set
		s := bytesOf(op)
		holds(t, s)
		holds(t, s+"\x05")
		holds(t, s[:len(s)-1])
		holds(t, row(1, 2, 7, 2, len(set)+1)+s[len(row(1, 2, 7, 2, len(set))):])
	}
	for _, l := range [][]int{{0, 1, 1, 1}, {3, 1, 0, 1}, {0, 0}, {5, 0, 7, 1}, {0, 20000, 20000, 20000}, {19999, 2}} {
		r := nums.Read(row(append([]int{1, 2, 7, 2, len(l) / 2}, l...)...) + "\x09")
		if op, ok := ops.Get(r); ok || !alike(op, api.Op{}) || r.Fault() != api.OK || r.Left() != 1 {
			t.Errorf("%d: %v, fault %d, left %d", l, ok, r.Fault(), r.Left())
		}
	}
	// A great count ahead of few bytes.
	for _, n := range []int{1, 10000, 10001, 20000} {
		r := nums.Read(row(1, 2, 7, 2, n))
		if op, ok := ops.Get(r); ok || !alike(op, api.Op{}) || r.Fault() != api.ErrShort || r.Left() != 0 {
			t.Errorf("%d spans: %v, fault %d", n, ok, r.Fault())
		}
	}
}

// P8.2, P8.3: of the Kind 0 nothing more is read; of a site, or a Seq, of 0 all is.
func TestRead(t *testing.T) {
	type stands struct {
		left  int
		fault api.Errno
	}
	for _, x := range []struct {
		s        string
		op, edit stands
	}{
		{row(1, 2, 7, 0), stands{}, stands{}}, {row(1, 2, 7, 0, 5, 6), stands{left: 2}, stands{left: 2}}, {row(1, 2, 7, 0) + "\x80\x00", stands{left: 2}, stands{left: 2}}, {row(0, 0, 0, 0), stands{}, stands{}}, {row(0, 0, 0, 0, 0), stands{left: 1}, stands{left: 1}},
		{row(0, 2, 7, 1, 3, 2, 5, 5, 9), stands{left: 1}, stands{left: 1}}, {row(1, 0, 7, 1, 3, 2, 5, 5, 9), stands{left: 1}, stands{left: 1}}, {row(0, 2, 7, 2, 1, 3, 2, 9), stands{left: 1}, stands{left: 2}}, {row(1, 0, 7, 2, 1, 3, 2, 9), stands{left: 1}, stands{left: 2}}, {row(1, 2, 7, 2, 3, 0, 9), stands{fault: api.ErrShort}, stands{left: 1}},
		{row(1, 2, 7, 3, 3, 2), stands{3, api.ErrForm}, stands{3, api.ErrForm}}, {row(1, 2, 7, 128), stands{2, api.ErrForm}, stands{2, api.ErrForm}}, {row(17, 0, 0, 0), stands{4, api.ErrForm}, stands{4, api.ErrForm}},
	} {
		holds(t, x.s)
		r := nums.Read(x.s)
		if op, ok := ops.Get(r); ok || !alike(op, api.Op{}) || (stands{r.Left(), r.Fault()}) != x.op {
			t.Errorf("Get(%d): %v, left %d, fault %d", few(x.s), ok, r.Left(), r.Fault())
		}
		r = nums.Read(x.s)
		if e, ok := ops.GetEdit(r); ok || e != (api.Edit{}) || (stands{r.Left(), r.Fault()}) != x.edit {
			t.Errorf("GetEdit(%d): %v, left %d, fault %d", few(x.s), ok, r.Left(), r.Fault())
		}
	}
}

// P8.2, P8.3: a reader that is nil, that is at no bytes, or that faulted ahead, tells nothing, and no more is passed.
func TestReaders(t *testing.T) {
	for _, r := range []*nums.Reader{nil, {}, nums.Read(""), faulted("\x01\x02\x07\x02\x00"), faulted("\x01\x02\x07\x01\x03\x02ab"), faulted("\x01\x02\x07\x02\x03\x04")} {
		left := r.Left()
		if op, ok := ops.Get(r); ok || !alike(op, api.Op{}) || r.Left() != left {
			t.Error(op, ok, r.Left())
		}
		if e, ok := ops.GetEdit(r); ok || e != (api.Edit{}) || r.Left() != left {
			t.Error(e, ok, r.Left())
		}
	}
}

// faulted makes a reader of bytes that has faulted ahead of them.
func faulted(s string) *nums.Reader {
	r := nums.Read("\x80\x00" + s)
	r.Num(5)
	return r
}

// P8.2, P8.3: all bytes of edges, some behind each other, and what was changed by chance.
func TestAnyBytes(t *testing.T) {
	edge := []byte{0, 1, 2, 3, 16, 17, 127, 128, 129, 255}
	var along func(s string, n int)
	along = func(s string, n int) {
		holds(t, s)
		if n > 0 {
			for _, b := range edge {
				along(s+string([]byte{b}), n-1)
			}
		}
	}
	along("", 3)
	for _, head := range []string{row(1, 1, 0), row(16, maxNum, maxNum), row(0, 1, 0), row(1, 0, 0), row(1, 1, 0, 1, 0), row(1, 1, 0, 2, 1), row(1, 1, 0, 2, 2)} {
		along(head, 3)
	}
	r := rand.New(rand.NewSource(8))
	for _, s := range samples() {
		for range 3000 {
			l := []byte(s)
			for range 1 + r.Intn(3) {
				switch at := r.Intn(len(l) + 1); {
				case at == len(l) || r.Intn(4) == 0:
					l = slices.Insert(l, at, edge[r.Intn(len(edge))])
				case r.Intn(3) == 0 && len(l) > 1:
					l = slices.Delete(l, at, at+1)
				default:
					l[at] = byte(r.Intn(256))
				}
			}
			holds(t, string(l))
		}
	}
}

// P8.4: nothing else is got as what was put: two that are unlike have unlike bytes.
func TestApart(t *testing.T) {
	of := map[string]api.Op{}
	for _, op := range some() {
		s, _ := ops.Put(op)
		if other, there := of[s]; there && !alike(op, other) {
			t.Fatalf("%v and %v: %d", short(op), short(other), few(s))
		}
		of[s] = op
	}
	ofEdit := map[string]api.Edit{}
	for _, e := range someEdits() {
		s, _ := ops.PutEdit(e)
		if other, there := ofEdit[s]; there && e != other {
			t.Fatalf("%v and %v: %d", e, other, few(s))
		}
		ofEdit[s] = e
	}
}

// within tells whether a text's bytes are some of those of another one, in memory.
func within(part, whole string) bool {
	at, from := uintptr(unsafe.Pointer(unsafe.StringData(part))), uintptr(unsafe.Pointer(unsafe.StringData(whole)))
	return part != "" && from <= at && at < from+uintptr(len(whole))
}

// Rule 5: the spans that are handed in stay as they were, and so does the room behind them.
func TestGiven(t *testing.T) {
	spare := api.Span{From: -77, Len: -77}
	for _, set := range sets {
		op := deletion(1, 2, 7)
		op.Spans = append(slices.Clone(set), slices.Repeat([]api.Span{spare}, 5)...)[:len(set)]
		was := op
		ops.May(op, 5)
		ops.Adds(op)
		ops.Same(op, op)
		ops.Before(op, op)
		ops.Put(op)
		op.Kind = api.Ins
		op.Text = "a"
		ops.May(op, 5)
		ops.Put(op)
		room := was.Spans[len(set) : len(set)+5]
		if !slices.Equal(was.Spans, set) || slices.ContainsFunc(room, func(s api.Span) bool { return s != spare }) {
			t.Fatalf("%v came to be %v, %v", set[:min(9, len(set))], was.Spans[:min(9, len(set))], room)
		}
	}
}

// Rule 5: what is told shares no memory with what is handed in, nor with what else is told.
func TestMemory(t *testing.T) {
	text := strings.Repeat("body", 50)
	ins, e := insertion(1, 2, 7, 3, text), inserting(1, 2, 7, 3, text)
	one, _ := ops.Put(ins)
	two, _ := ops.Put(ins)
	three, _ := ops.PutEdit(e)
	if within(text, one) || within(text, two) || within(text, three) || within(one, two) || within(one, three) {
		t.Error("what is put shares memory")
	}
	kept := []byte(one)
	handed := unsafe.String(&kept[0], len(kept))
	a, _ := ops.Get(nums.Read(handed))
	b, _ := ops.Get(nums.Read(handed))
	c, _ := ops.GetEdit(nums.Read(handed))
	if within(a.Text, handed) || within(b.Text, a.Text) || within(c.Text, handed) || within(c.Text, a.Text) {
		t.Error("what is got shares memory")
	}
	clear(kept)
	if a.Text != text || b.Text != text || c.Text != text {
		t.Error("what was got hangs on what was handed in")
	}
	s, _ := ops.Put(deletion(1, 2, 7, 1, 3, 5, 1, 8, 1))
	r := nums.Read(s + s)
	a, _ = ops.Get(r)
	b, _ = ops.Get(r)
	for i := range a.Spans[:cap(a.Spans)] {
		a.Spans[:cap(a.Spans)][i] = api.Span{From: -99, Len: -99}
	}
	if !slices.Equal(b.Spans, list(1, 3, 5, 1, 8, 1)) {
		t.Error(b.Spans)
	}
}

// Rule 6: what a call answers hangs on its arguments alone, whatever was asked between.
func TestNothingElse(t *testing.T) {
	op, e := deletion(1, 2, 7, 1, 3, 5, 1), inserting(2, 3, 4, 5, "hello")
	s, _ := ops.Put(op)
	u, _ := ops.PutEdit(e)
	ops.Put(api.Op{})
	ops.Get(nums.Read("\x01\x80"))
	ops.PutEdit(api.Edit{})
	ops.GetEdit(nums.Read("\x11"))
	again, _ := ops.Put(op)
	got, ok := ops.Get(nums.Read(s))
	if again != s || !ok || !alike(got, op) {
		t.Error(few(again), got, ok)
	}
	again, _ = ops.PutEdit(e)
	back, ok := ops.GetEdit(nums.Read(u))
	if again != u || !ok || back != e {
		t.Error(few(again), back, ok)
	}
}

// Rule 4: nil and empty are one and the same.
func TestNilIsEmpty(t *testing.T) {
	for _, op := range []api.Op{insertion(1, 2, 7, 3, "ab"), deletion(1, 2, 7), {}} {
		empty := op
		empty.Spans = []api.Span{}
		s, e := ops.Put(op)
		u, f := ops.Put(empty)
		if ops.May(op, 5) != ops.May(empty, 5) || !ops.Same(op, empty) || s != u || e != f || ops.Adds(op) != ops.Adds(empty) {
			t.Errorf("%v", op)
		}
	}
}
