package collect_test

import (
	"slices"
	"testing"
	"unsafe"

	"foolscap/api"
	"foolscap/collect"
	"foolscap/hist"
	"foolscap/model/hists"
)

// ink writes texts into bytes that can be written over.
type ink struct {
	bytes [][]byte
	was   []string
}

// text tells a text that stands in bytes of its own.
func (i *ink) text(s string) string {
	if s == "" {
		return ""
	}
	b := []byte(s)
	i.bytes, i.was = append(i.bytes, b), append(i.was, s)
	return unsafe.String(&b[0], len(b))
}

// same tells whether all texts are as they were written.
func (i *ink) same() bool {
	for k, b := range i.bytes {
		if string(b) != i.was[k] {
			return false
		}
	}
	return true
}

// blot writes over all texts.
func (i *ink) blot() {
	for _, b := range i.bytes {
		for k := range b {
			b[k] = '#'
		}
	}
}

// textsOf are all texts of a history.
func textsOf(h hist.Hist) []string {
	var l []string
	for _, x := range h.List {
		l = append(l, x.Op.Text, x.Edit.Text)
	}
	return slices.DeleteFunc(l, func(s string) bool { return s == "" })
}

// sharedTexts tells whether two of some texts stand in one memory; such of one byte may, as the language keeps these.
func sharedTexts(l []string) bool {
	for i, s := range l {
		for _, u := range l[:i] {
			if len(s) > 1 && unsafe.StringData(s) == unsafe.StringData(u) {
				return true
			}
		}
	}
	return false
}

// samples are histories as they come, with and without anything that is Gone, deleted or pending.
func samples() []hist.Hist {
	live := hists.Sample()
	for i := range live.Base {
		live.Base[i].Gone = false
	}
	live.List = live.List[:1]
	return []hist.Hist{hists.Sample(), hists.Numbered(), live}
}

// Rule 5: what is handed in isn't changed, its spare room neither; nor is it kept: whatever is written over it, what was told stays.
func TestHandedIn(t *testing.T) {
	for k, sample := range samples() {
		for upto := 3; upto <= 13; upto++ {
			var i ink
			h := hists.RoomyHist(i.text, sample)
			was := hists.Room(h)
			want, wantPlaces, _, wantErr := hists.Collect(samples()[k], upto)
			got, places, err := collect.Collect(h, upto)
			if !sameHist(hists.Room(h), was) || !i.same() || err != wantErr {
				t.Fatal("what was handed in is changed")
			}
			var x hists.Told
			x.Hist(h)
			x.Blot()
			i.blot()
			if !sameHist(got, want) || !sameSpans(places, wantPlaces) {
				t.Errorf("%d, up to %d: what was told is changed: %v, %v", k, upto, got, places)
			}
		}
	}
	acks := hists.Roomy([]int{5, 3, 8}, -7)
	room := slices.Clone(acks[:cap(acks)])
	if n, err := collect.Least(acks); n != 3 || err != api.OK || !slices.Equal(acks[:cap(acks)], room) {
		t.Error(n, err, acks[:cap(acks)])
	}
}

// Rule 5: what is told shares no memory with what was handed in, nor with another answer, nor within itself; whatever is written over it, the history stays.
func TestTold(t *testing.T) {
	for k, h := range samples() {
		for upto := 4; upto <= 12; upto++ {
			var x hists.Told
			x.Hist(h)
			var texts []string
			for range 2 {
				got, places, err := collect.Collect(h, upto)
				if err != api.OK {
					t.Fatal(err)
				}
				x.Hist(got)
				x.Spans = append(x.Spans, places)
				texts = append(texts, textsOf(got)...)
			}
			if x.AnyShared() || sharedTexts(texts) {
				t.Errorf("%d, up to %d: memory is shared", k, upto)
			}
			got, places, _ := collect.Collect(h, upto)
			x = hists.Told{}
			x.Hist(got)
			x.Spans = append(x.Spans, places)
			x.Blot()
			if !sameHist(h, samples()[k]) {
				t.Errorf("%d, up to %d: the history is changed by way of what was told", k, upto)
			}
			collected(t, h, upto)
		}
	}
}

// Rule 5: the texts that are told are none of those that were handed in.
func TestToldTexts(t *testing.T) {
	for k := range samples() {
		var i ink
		h := hists.RoomyHist(i.text, samples()[k])
		for upto := 4; upto <= 12; upto++ {
			got, _, err := collect.Collect(h, upto)
			if err != api.OK || sharedTexts(slices.Concat(textsOf(h), textsOf(got))) {
				t.Errorf("%d, up to %d: %d, texts are shared", k, upto, err)
			}
		}
	}
}

// Rule 5: nor do empty lists with room behind them lead to what is kept; what is laid behind a list that is told stands in none that was handed in.
func TestToldEmpty(t *testing.T) {
	roomy := func(op api.Op) api.Op {
		op.Spans = make([]api.Span, 0, 4)
		return op
	}
	h := hist.Hist{Base: make([]api.Cell, 0, 4), Vector: make([]int, 0, 4), Num: 6, List: make([]api.Entry, 0, 8)}
	h.List = append(h.List, entries(roomy(deletion(name(1, 1), 1)), roomy(insertion(name(1, 2), 2, 0, "ab")), roomy(deletion(name(1, 3), 3)), roomy(insertion(name(2, 1), 5, 1, "cd")), roomy(deletion(name(3, 1), 0)))...)
	empty := hist.Hist{Base: make([]api.Cell, 0, 4), Vector: make([]int, 0, 4), List: make([]api.Entry, 0, 4)}
	var x hists.Told
	x.Hist(h)
	x.Hist(empty)
	for upto := range 7 {
		got, places, err := collect.Collect(h, upto)
		if err != api.OK {
			t.Fatal(upto, err)
		}
		x.Hist(got)
		x.Spans = append(x.Spans, places)
		was := hists.Room(h)
		_ = append(got.List, entry(insertion(name(9, 9), 0, 0, "q")))
		_, _ = append(got.Base, cell(9, 9, 9, 'q', true)), append(got.Vector, 99)
		if !sameHist(hists.Room(h), was) {
			t.Errorf("up to %d: what is laid behind what is told is laid behind what was handed in", upto)
		}
		collected(t, h, upto)
	}
	got, _, _ := collect.Collect(empty, 0)
	x.Hist(got)
	if x.AnyShared() {
		t.Error("memory is shared")
	}
}

// Rule 4: nil and empty are one and the same.
func TestNilIsEmpty(t *testing.T) {
	with := func(spans []api.Span) hist.Hist {
		ins, del := insertion(name(1, 1), 1, 0, "ab"), deletion(name(2, 1), 2)
		ins.Spans, del.Spans = spans, spans
		mine := del
		mine.Name, mine.Num = name(2, 2), 0
		return hist.Hist{Num: 2, List: entries(ins, del, mine)}
	}
	for _, spans := range [][]api.Span{nil, {}} {
		for _, h := range []hist.Hist{with(spans), {Base: []api.Cell{}, Vector: []int{}, Num: 2, List: with(spans).List}, {Num: 2}, {Base: []api.Cell{}, Vector: []int{}, List: []api.Entry{}, Num: 2}} {
			holdsAll(t, h)
			for upto := range 3 {
				got, places, err := collect.Collect(h, upto)
				want, wantPlaces, wantErr := collect.Collect(hist.Hist{Num: 2, List: slices.Clip(append([]api.Entry(nil), h.List...))}, upto)
				if !sameHist(got, want) || !sameSpans(places, wantPlaces) || err != wantErr {
					t.Error(h, got, want)
				}
			}
		}
	}
}

// Rule 6: the same is told of the same, however often it is asked.
func TestAgain(t *testing.T) {
	for k, h := range samples() {
		for range 3 {
			for upto := 3; upto <= 13; upto++ {
				holds(t, h, upto)
			}
		}
		if !sameHist(h, samples()[k]) {
			t.Error(k)
		}
	}
}
