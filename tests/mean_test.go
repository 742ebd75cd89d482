package tests

import (
	"math"
	"math/rand"
	"slices"
	"testing"

	"loop.example/bellman/impl"
)

// exOf is what a text looks for.
func exOf(t *testing.T, text string) impl.Ex {
	t.Helper()
	x, ok := readBackwards(text)
	if !ok {
		t.Fatalf("%q is nothing that is looked for", text)
	}
	return x
}

// evsOf is the events of a text.
func evsOf(t *testing.T, text string) []impl.Ev {
	t.Helper()
	list, ok := readByWords(text)
	if !ok {
		t.Fatalf("%q is no events", text)
	}
	return list
}

// okEvs is EvsOk, told otherwise.
func okEvs(list []impl.Ev) bool {
	last := 0
	for _, e := range list {
		if e.Sym < 0 || e.Sym > 4 || e.Val < 0 || e.Val > 100 || e.At <= last || e.At > 1000 {
			return false
		}
		last = e.At
	}
	return len(list) < 25
}

// lastAt is the At of the last event, or 0.
func lastAt(list []impl.Ev) int {
	last := 0
	for _, e := range list {
		last = e.At
	}
	return last
}

// partModel is a part of what is looked for, told otherwise: time by time, and the same part in two places is two.
type partModel struct {
	x    impl.Ex
	kids []*partModel
	pair *pairModel
	span *spanModel
	due  map[int][]impl.Occ
	many int
}

func newPartModel(x impl.Ex) *partModel {
	p := &partModel{x: x, pair: newPairModel(impl.Pair{}), span: newSpanModel(impl.Span{}), due: map[int][]impl.Occ{}}
	for _, kid := range x.Kids {
		p.kids = append(p.kids, newPartModel(kid))
	}
	return p
}

// at is what is found at a time, at which the events of now happen.
func (p *partModel) at(mode, time int, now map[int]impl.Ev) []impl.Occ {
	var kids [3][]impl.Occ
	for i, kid := range p.kids {
		kids[i] = kid.at(mode, time, now)
	}
	clear(p.pair.found)
	clear(p.span.found)
	var found []impl.Occ
	switch p.x.Kind {
	case impl.ExSym:
		for place, e := range now {
			if e.Sym == p.x.Sym {
				found = append(found, occ(time, time, place))
			}
		}
	case impl.ExOr:
		found = ordered(append(copiedOccs(kids[0]), kids[1]...))
	case impl.ExAnd:
		p.pair.and(mode, kids[0], kids[1])
		found = sorted(p.pair.found)
	case impl.ExSeq:
		p.pair.seq(mode, kids[0], kids[1])
		found = sorted(p.pair.found)
	case impl.ExNot:
		p.span.not(mode, kids[0], kids[1], kids[2])
		found = sorted(p.span.found)
	case impl.ExEach:
		p.span.each(mode, kids[0], kids[1], kids[2])
		found = sorted(p.span.found)
	case impl.ExPlus:
		found = p.due[time]
		for _, o := range kids[0] {
			p.due[time+p.x.N] = append(p.due[time+p.x.N], occ(o.From, time+p.x.N, o.Ids...))
		}
	}
	p.many += len(found)
	return found
}

// tooMany says whether it, or a part of it, was found more than OccMax times.
func (p *partModel) tooMany() bool {
	return p.many > 40 || slices.ContainsFunc(p.kids, (*partModel).tooMany)
}

// meanModel is MeanOf, told otherwise: each time till the last event comes, and what is found then has just what came by then.
func meanModel(x impl.Ex, mode int, list []impl.Ev) ([]impl.Occ, bool) {
	if !okEx(x) || mode < 0 || mode > 4 || !okEvs(list) {
		return nil, false
	}
	p := newPartModel(x)
	var all []impl.Occ
	for time := 1; time <= lastAt(list); time++ {
		now := map[int]impl.Ev{}
		for place, e := range list {
			if e.At == time {
				now[place] = e
			}
		}
		all = append(all, p.at(mode, time, now)...)
		if p.tooMany() {
			return nil, false
		}
	}
	return all, true
}

// holdMean holds MeanOf, MeanFirst and MeanUsed, and MeanAt at some times, against the model, and answers what MeanOf did.
func holdMean(t *testing.T, x impl.Ex, mode int, list []impl.Ev, times ...int) ([]impl.Occ, bool) {
	t.Helper()
	want, wantOk := meanModel(x, mode, list)
	got, ok := impl.MeanOf(x, mode, list)
	if ok != wantOk || !sameOccs(got, want) {
		t.Fatalf("MeanOf(%v, %d, %v) = %s, %v, want %s, %v", x, mode, list, textOccs(got), ok, textOccs(want), wantOk)
	}
	for _, at := range times {
		wantAt := slices.DeleteFunc(copiedOccs(want), func(o impl.Occ) bool { return o.To != at })
		if gotAt := impl.MeanAt(x, mode, list, at); !sameOccs(gotAt, wantAt) {
			t.Fatalf("MeanAt(%v, %d, %v, %d) = %s, want %s", x, mode, list, at, textOccs(gotAt), textOccs(wantAt))
		}
	}
	first, used := -1, map[int]int{}
	for _, o := range want {
		if first < 0 || o.To < first {
			first = o.To
		}
		for _, id := range o.Ids {
			used[id]++
		}
	}
	if gotFirst := impl.MeanFirst(x, mode, list); gotFirst != first {
		t.Fatalf("MeanFirst(%v, %d, %v) = %d, want %d", x, mode, list, gotFirst, first)
	}
	wantUsed := slices.DeleteFunc(upTo(24), func(id int) bool { return used[id] == 0 })
	if gotUsed := impl.MeanUsed(x, mode, list); !slices.Equal(gotUsed, wantUsed) {
		t.Fatalf("MeanUsed(%v, %d, %v) = %v, want %v", x, mode, list, gotUsed, wantUsed)
	}
	return got, ok
}

// holdNone asks for the fixed answers to what is not ok, or is too much.
func holdNone(t *testing.T, name string, x impl.Ex, mode int, list []impl.Ev) {
	t.Helper()
	if got, ok := impl.MeanOf(x, mode, list); ok || len(got) != 0 {
		t.Errorf("%s, mode %d: MeanOf = %s, %v", name, mode, textOccs(got), ok)
	}
	for _, at := range []int{math.MinInt, -1, 0, 1, 2, 3, 1000, math.MaxInt} {
		if got := impl.MeanAt(x, mode, list, at); len(got) != 0 {
			t.Errorf("%s, mode %d: MeanAt at %d = %s", name, mode, at, textOccs(got))
		}
	}
	if got := impl.MeanFirst(x, mode, list); got != -1 {
		t.Errorf("%s, mode %d: MeanFirst = %d", name, mode, got)
	}
	if got := impl.MeanUsed(x, mode, list); len(got) != 0 {
		t.Errorf("%s, mode %d: MeanUsed = %v", name, mode, got)
	}
}

// meanCase is what is looked for, what happened, and what is found then, in each mode.
type meanCase struct {
	look, events string
	want         [5]string
}

// holdMeanCases holds such cases against the program, and against the model, at each time.
func holdMeanCases(t *testing.T, cases []meanCase) {
	t.Helper()
	for _, c := range cases {
		x, list := exOf(t, c.look), evsOf(t, c.events)
		times := append(upTo(lastAt(list)+3), -1, math.MinInt, math.MaxInt)
		for _, mode := range modes {
			got, ok := holdMean(t, x, mode, list, times...)
			if text := textOccs(got); !ok || text != c.want[mode] {
				t.Errorf("%s of %s, mode %d: %q, %v, want %q", c.look, c.events, mode, text, ok, c.want[mode])
			}
		}
	}
}

// P6: each of the seven kinds alone, in each mode.
func TestMeanKinds(t *testing.T) {
	holdMeanCases(t, []meanCase{
		{"a", "a1 b2 a3=5 c4 b6", all("1-1(0) 3-3(2)")},
		{"c", "a1 b2 a3 c4 b6", all("4-4(3)")},
		{"e", "a1 b2 a3 c4 b6", all("")},
		{"e", "a1 b2 e1000", all("1000-1000(2)")},
		{"or a c", "a1 b2 a3 c4 b6", all("1-1(0) 3-3(2) 4-4(3)")},
		{"or c a", "a1 b2 a3 c4 b6", all("1-1(0) 3-3(2) 4-4(3)")},
		{"or a d", "a1 b2 a3 c4 b6", all("1-1(0) 3-3(2)")},
		{"and a b", "a1 a2 b3 b4 b5 a6", [5]string{
			"1-3(0,2) 2-3(1,2) 1-4(0,3) 2-4(1,3) 1-5(0,4) 2-5(1,4) 3-6(2,5) 4-6(3,5) 5-6(4,5)",
			"2-3(1,2) 2-4(1,3) 2-5(1,4) 5-6(4,5)",
			"1-3(0,2) 2-4(1,3) 5-6(4,5)",
			"1-3(0,2) 2-3(1,2) 4-6(3,5) 5-6(4,5)",
			"1-3(0,1,2) 4-6(3,4,5)",
		}},
		{"and a d", "a1 b2 a3 c4 b6", all("")},
		{"seq a b", "a1 a2 b3 b4", [5]string{
			"1-3(0,2) 2-3(1,2) 1-4(0,3) 2-4(1,3)",
			"2-3(1,2) 2-4(1,3)",
			"1-3(0,2) 2-4(1,3)",
			"1-3(0,2) 2-3(1,2)",
			"1-3(0,1,2)",
		}},
		{"seq b a", "a1 a2 b3 b4", all("")},
		{"not a c b", "a1 a2 c3 a4 a5 b6 b7", [5]string{
			"4-6(3,5) 5-6(4,5) 4-7(3,6) 5-7(4,6)",
			"5-6(4,5) 5-7(4,6)",
			"4-6(3,5) 5-7(4,6)",
			"4-6(3,5) 5-6(4,5)",
			"4-6(3,4,5)",
		}},
		{"not a b c", "a1 b2 c3", all("")},
		{"not a c b", "a1 b2 c3", all("1-2(0,1)")},
		{"each a b c", "a1 a2 b3 b4 c5 b6", [5]string{
			"1-3(0,2) 2-3(1,2) 1-4(0,3) 2-4(1,3)",
			"2-3(1,2) 2-4(1,3)",
			"1-3(0,2) 1-4(0,3)",
			"1-3(0,2) 2-3(1,2) 1-4(0,3) 2-4(1,3)",
			"1-3(0,1,2) 1-4(0,1,3)",
		}},
		{"each a c b", "a1 b2 c3", all("")},
		{"plus 2 a", "a1 b2 a3 c5", all("1-3(0) 3-5(2)")},
		{"plus 20 a", "a1 a2 b22", all("1-21(0) 2-22(1)")},
	})
}

// P6: kinds within one another, in each mode.
func TestMeanWithin(t *testing.T) {
	holdMeanCases(t, []meanCase{
		{"seq plus 2 a b", "a1 b2 b3 b4", all("1-4(0,3)")},
		{"plus 2 seq a b", "a1 b2 c4", all("1-4(0,1)")},
		{"or plus 3 a seq a b", "a1 b2 c5", all("1-2(0,1) 1-4(0)")},
		{"and plus 2 a c", "a1 c2 b3", all("1-3(0,1)")},
		{"and plus 2 a c", "a1 c3", all("1-3(0,1)")},
		{"seq plus 2 a c", "a1 c3", all("")},
		{"seq a plus 2 c", "a1 c2 a3 e4", all("1-4(0,1)")},
		{"not a b plus 4 a", "a1 b3 d4 a5 c11", all("")},
		{"not a b plus 4 a", "a1 d4 a5 c11", all("1-9(0,2)")},
		{"not a plus 1 b c", "a1 b2 c3 b4 c6", all("1-3(0,2)")},
		{"not a plus 1 b c", "a1 b2 c4", all("")},
		{"each seq a b c or d e", "a1 b2 c3 d4 c5 a6 b7 c8 e9 c10", [5]string{
			"1-3(0,1,2) 1-8(0,6,7) 6-8(5,6,7)",
			"1-3(0,1,2) 6-8(5,6,7)",
			"1-3(0,1,2) 6-8(5,6,7)",
			"1-3(0,1,2) 6-8(5,6,7)",
			"1-3(0,1,2) 6-8(5,6,7)",
		}},
		{"seq seq a b c", "a1 b2 c3", all("1-3(0,1,2)")},
		{"seq a seq b c", "b1 a2 b3 c4", [5]string{
			"2-4(1,2,3)",
			"2-4(1,2,3)",
			"",
			"2-4(1,2,3)",
			"",
		}},
		{"seq a and b c", "b1 a2 c3 b4 c5", [5]string{
			"2-4(1,2,3) 2-5(1,3,4)",
			"2-4(1,2,3) 2-5(1,3,4)",
			"2-5(1,3,4)",
			"2-5(1,3,4)",
			"2-5(1,3,4)",
		}},
		{"seq seq a b seq a b", "a1 b2 a3 b4", all("1-4(0,1,2,3)")},
	})
}

// P6: what is later comes till the last event, and just then too, whatever comes then; a plus within a plus is the two together.
func TestMeanLater(t *testing.T) {
	holdMeanCases(t, []meanCase{
		{"plus 1 a", "", all("")},
		{"plus 1 a", "a1", all("")},
		{"plus 1 a", "a1 a2", all("1-2(0)")},
		{"plus 3 a", "a1 b3", all("")},
		{"plus 3 a", "a1 b4", all("1-4(0)")},
		{"plus 3 a", "a1 b5", all("1-4(0)")},
		{"plus 3 a", "a1 b2 a3 b4", all("1-4(0)")},
		{"plus 20 a", "a980 b1000", all("980-1000(0)")},
		{"plus 20 a", "a981 b1000", all("")},
		{"plus 1 a", "a999 a1000", all("999-1000(0)")},
		{"plus 1 a", "a1000", all("")},
		{"plus 1 plus 2 a", "a1 b3", all("")},
		{"plus 1 plus 2 a", "a1 b4", all("1-4(0)")},
		{"plus 2 plus 1 a", "a1 b3", all("")},
		{"plus 2 plus 1 a", "a1 b4", all("1-4(0)")},
		{"plus 3 a", "a1 b4 c9", all("1-4(0)")},
		{"plus 20 plus 20 plus 20 plus 20 a", "a1 b80", all("")},
		{"plus 20 plus 20 plus 20 plus 20 a", "a1 b81", all("1-81(0)")},
		{"or a plus 4 a", "a1 b4", all("1-1(0)")},
		{"seq a plus 4 b", "a1 b2 e5", all("")},
		{"seq a plus 4 b", "a1 b2 e6", all("1-6(0,1)")},
		{"and a plus 4 a", "a1 e5", all("1-5(0)")},
		{"and a plus 4 a", "a1 e4", all("")},
		{"not a plus 1 b plus 2 c", "a1 b2 c4 e6", all("")},
		{"not a plus 2 b plus 2 c", "a1 b2 c4 e6", all("1-6(0,2)")},
		{"each a plus 2 b c", "a1 b2 c3 e4", all("1-4(0,1)")},
		{"each a plus 2 b c", "a1 b2 c3", all("")},
	})
}

// P6: the same part twice is found the same twice, and is itself with itself where both are looked for.
func TestMeanTwice(t *testing.T) {
	holdMeanCases(t, []meanCase{
		{"or a a", "a1 b2 a3", all("1-1(0) 3-3(2)")},
		{"and a a", "a1 a2", [5]string{"1-1(0) 1-2(0,1) 2-2(1)", "1-1(0) 1-2(0,1) 2-2(1)", "1-1(0) 2-2(1)", "1-1(0) 2-2(1)", "1-1(0) 2-2(1)"}},
		{"seq a a", "a1 a2 a3", [5]string{"1-2(0,1) 1-3(0,2) 2-3(1,2)", "1-2(0,1) 2-3(1,2)", "1-2(0,1) 2-3(1,2)", "1-2(0,1) 2-3(1,2)", "1-2(0,1) 2-3(1,2)"}},
		{"not a a a", "a1 a2 a3", all("1-2(0,1) 2-3(1,2)")},
		{"each a a a", "a1 a2 a3", all("1-2(0,1) 2-3(1,2)")},
		{"or plus 1 a plus 1 a", "a1 b2", all("1-2(0)")},
		{"or plus 1 a plus 2 a", "a1 b3", all("1-2(0) 1-3(0)")},
		{"or plus 2 a plus 1 b", "a1 b2 c3", all("1-3(0) 2-3(1)")},
		{"or seq a b seq a b", "a1 b2", all("1-2(0,1)")},
		{"or seq a b seq b a", "a1 b2 a3", all("1-2(0,1) 2-3(1,2)")},
		{"and seq a b seq a b", "a1 b2", all("1-2(0,1)")},
		{"or seq a b and a b", "b1 a2 b3", all("1-2(0,1) 2-3(1,2)")},
	})
}

// No events, one event, EvMax events and one more; modes at their edges.
func TestMeanEdges(t *testing.T) {
	for kind := impl.ExSym; kind <= impl.ExPlus; kind++ {
		x := least(kind)
		for _, mode := range modes {
			for _, list := range [][]impl.Ev{nil, {}} {
				if got, ok := holdMean(t, x, mode, list, -1, 0, 1); !ok || len(got) != 0 {
					t.Errorf("kind %d, mode %d, of no events: %v, %v", kind, mode, got, ok)
				}
			}
			got, ok := holdMean(t, x, mode, evsOf(t, "a7"), 6, 7, 8)
			if want := []string{"", "7-7(0)", "7-7(0)", "", "", "", "", ""}[kind]; !ok || textOccs(got) != want {
				t.Errorf("kind %d, mode %d, of one event: %v, %v", kind, mode, got, ok)
			}
		}
		for mode, want := range map[int]bool{-1: false, 0: true, impl.ModeMax - 1: true, impl.ModeMax: false} {
			for _, list := range [][]impl.Ev{nil, evsOf(t, "a1 b2 c3")} {
				if _, ok := impl.MeanOf(x, mode, list); ok != want {
					t.Errorf("kind %d, mode %d: %v", kind, mode, ok)
				}
				holdMean(t, x, mode, list, 0, 1, 2, 3)
			}
		}
	}
	most := row(impl.EvMax)
	if got, ok := holdMean(t, leaf(0), 0, most, 0, 1, 24, 25); !ok || len(got) != 24 {
		t.Errorf("EvMax events: %v, %v", got, ok)
	}
	if got, ok := holdMean(t, exOf(t, "seq a e"), 0, append(row(23), impl.Ev{Sym: 4, At: 1000}), 1000); !ok || len(got) != 23 {
		t.Errorf("EvMax events: %v, %v", got, ok)
	}
	for _, mode := range modes {
		holdNone(t, "one more", leaf(0), mode, row(impl.EvMax+1))
		holdNone(t, "one more, of another letter", leaf(1), mode, row(impl.EvMax+1))
		holdNone(t, "many", leaf(0), mode, row(900))
	}
}

// P6: what happened with which number is nothing that is looked for.
func TestMeanWhateverNumber(t *testing.T) {
	x := exOf(t, "or seq a b plus 1 a")
	for _, mode := range modes {
		plain, _ := holdMean(t, x, mode, evsOf(t, "a1 b2 a3 b5"))
		numbers, _ := holdMean(t, x, mode, evsOf(t, "a1=100 b2=1 a3=50 b5=7"))
		if len(plain) == 0 || !sameOccs(plain, numbers) {
			t.Errorf("mode %d: %s, %s", mode, textOccs(plain), textOccs(numbers))
		}
	}
}

// manyEvents is letters in a row, one a time unit, from 1 on.
func manyEvents(letters string) []impl.Ev {
	var list []impl.Ev
	for i, letter := range letters {
		list = append(list, impl.Ev{Sym: int(letter - 'a'), At: i + 1})
	}
	return list
}

// P6: found just OccMax times, and once more, as the whole.
func TestMeanTooOften(t *testing.T) {
	for _, c := range []struct {
		look, events string
		mode, want   int
	}{
		{"seq a b", "aaaabbbbbbbbbb", 0, 40},
		{"seq a b", "aaaabbbbbbbbbab", 0, -1},
		{"seq a b", "aaaabbbbbbbbbab", 1, 10},
		{"seq a b", "aaaabbbbbbbbbab", 2, 5},
		{"seq a b", "aaaabbbbbbbbbab", 3, 5},
		{"seq a b", "aaaabbbbbbbbbab", 4, 2},
		{"seq a b", "aaaaaaaaaaaabbbbbbbbbbbb", 0, -1},
		{"and a b", "aaaabbbbbbbbbb", 0, 40},
		{"and b a", "aabaabbbbbbbbb", 0, 40},
		{"and a or a b", "abbbbbbbbbbbbbbbbbba", 0, 39},
		{"and a or a b", "abbbbbbbbbbbbbbbbbbba", 0, -1},
		{"and a or a b", "abbbbbbbbbbbbbbbbbbba", 2, 2},
		{"or a plus 1 a", "aaaaaaaaaaaaaaaaaaaab", 0, 40},
		{"or a plus 1 a", "aaaaaaaaaaaaaaaaaaaaa", 0, -1},
		{"or a plus 1 a", "aaaaaaaaaaaaaaaaaaaaa", 4, -1},
		{"or seq a b seq c d", "aaaabbbbbccccddddd", 0, 40},
		{"or seq a b seq c d", "aaaabbbbbccccddddcd", 0, -1},
		{"or seq a b seq a b", "aaaabbbbbbbbbb", 0, 40},
		{"not a c b", "aaaabbbbbbbbbb", 0, 40},
		{"not a c b", "aaaabbbbbbbbbab", 0, -1},
		{"not a c b", "aaaabbbbbbbbbcab", 0, 37},
		{"each a b c", "aaaabbbbbbbbbb", 0, 40},
		{"each a b c", "aaaabbbbbbbbbb", 3, 40},
		{"each a b c", "aaaabbbbbbbbbab", 0, -1},
		{"each a b c", "aaaabbbbbbbbbab", 3, -1},
		{"each a b c", "aaaabbbbbbbbbab", 4, 10},
		{"plus 1 seq a b", "aaaabbbbbbbbbbc", 0, 40},
		{"plus 1 seq a b", "aaaabbbbbbbbbb", 0, 36},
		{"plus 1 seq a b", "aaaabbbbbbbbbabc", 0, -1},
		{"a", "aaaaaaaaaaaaaaaaaaaaaaaa", 0, 24},
	} {
		got, ok := holdMean(t, exOf(t, c.look), c.mode, manyEvents(c.events), 1, 5, len(c.events))
		if ok != (c.want >= 0) || len(got) != max(c.want, 0) {
			t.Errorf("%s of %s, mode %d: %d, %v, want %d", c.look, c.events, c.mode, len(got), ok, c.want)
		}
	}
}

// P6: found just OccMax times, and once more, as a part of what is found seldom or not at all: in each place of each kind, and deeper.
func TestMeanPartTooOften(t *testing.T) {
	just, more := manyEvents("aaaabbbbbbbbbb"), manyEvents("aaaabbbbbbbbbab")
	for name, c := range map[string]struct {
		part  string
		modes []int
	}{
		"seq":  {"seq a b", []int{0}},
		"not":  {"not a e b", []int{0}},
		"each": {"each a b e", []int{0, 3}},
	} {
		part := exOf(t, c.part)
		none := []impl.Ex{plus(20, part), node(impl.ExSeq, leaf(3), plus(1, part)), node(impl.ExSeq, node(impl.ExSeq, leaf(3), part), leaf(3))}
		for kind := impl.ExAnd; kind <= impl.ExEach; kind++ {
			for place := range exKids[kind] {
				kids := []impl.Ex{leaf(3), leaf(3), leaf(3)}[:exKids[kind]]
				kids[place] = part
				none = append(none, node(kind, kids...))
			}
		}
		for _, mode := range c.modes {
			for _, x := range none {
				if got, ok := holdMean(t, x, mode, just); !ok || len(got) != 0 {
					t.Errorf("%s, just OccMax, in %s, mode %d: %v, %v", name, textEx(x), mode, got, ok)
				}
				holdNone(t, name+", one more, in "+textEx(x), x, mode, more)
			}
			seldom := node(impl.ExOr, node(impl.ExAnd, leaf(3), part), leaf(4))
			late := func(list []impl.Ev) []impl.Ev { return append(slices.Clone(list), impl.Ev{Sym: 4, At: 900}) }
			if got, ok := holdMean(t, seldom, mode, late(just), 899, 900, 901); !ok || textOccs(got) != "900-900(14)" {
				t.Errorf("%s, just OccMax, found once, mode %d: %v, %v", name, mode, got, ok)
			}
			holdNone(t, name+", one more, found once", seldom, mode, late(more))
		}
	}
	// It is too much at its own time, and stays so, whatever comes or is used up later.
	list := append(more, impl.Ev{Sym: 4, At: 500}, impl.Ev{Sym: 3, At: 600})
	holdNone(t, "later", exOf(t, "seq seq a b seq e d"), 0, list)
	if _, ok := holdMean(t, exOf(t, "seq seq a b seq e d"), 0, more[:13]); !ok {
		t.Error("it is not too much till then")
	}
}

func TestMeanAt(t *testing.T) {
	list := evsOf(t, "a1 b2 a3 c4 b6")
	for _, c := range []struct {
		look string
		mode int
		at   int
		want string
	}{
		{"a", 0, 3, "3-3(2)"},
		{"a", 0, 2, ""},
		{"a", 0, 0, ""},
		{"a", 0, -1, ""},
		{"a", 0, -3, ""},
		{"a", 0, math.MinInt, ""},
		{"a", 0, math.MaxInt, ""},
		{"a", 0, 7, ""},
		{"d", 0, 3, ""},
		{"seq a b", 0, 1, ""},
		{"seq a b", 0, 2, "1-2(0,1)"},
		{"seq a b", 0, 6, "1-6(0,4) 3-6(2,4)"},
		{"seq a b", 1, 6, "3-6(2,4)"},
		{"seq a b", 3, 3, ""},
		{"and b a", 0, 3, "2-3(1,2)"},
		{"and b a", 4, 6, "3-6(2,4)"},
		{"plus 2 a", 0, 3, "1-3(0)"},
		{"plus 2 a", 0, 5, "3-5(2)"},
		{"plus 2 a", 0, 1, ""},
		{"plus 3 a", 0, 6, "3-6(2)"},
		{"plus 4 a", 0, 7, ""},
		{"plus 2 b", 0, 8, ""},
	} {
		if got := impl.MeanAt(exOf(t, c.look), c.mode, list, c.at); textOccs(got) != c.want {
			t.Errorf("%s, mode %d, at %d: %q, want %q", c.look, c.mode, c.at, textOccs(got), c.want)
		}
	}
}

func TestMeanFirst(t *testing.T) {
	for _, c := range []struct {
		look, events string
		mode, want   int
	}{
		{"a", "", 0, -1},
		{"d", "a1 b2 a3 c4 b6", 0, -1},
		{"a", "a1 b2 a3 c4 b6", 0, 1},
		{"b", "a1 b2 a3 c4 b6", 0, 2},
		{"seq a c", "a1 b2 a3 c4 b6", 0, 4},
		{"seq c a", "a1 b2 a3 c4 b6", 0, -1},
		{"seq a b", "b1 a2 b900 b1000", 2, 900},
		{"or and a b c", "a1 c2 b3", 0, 2},
		{"or c and a b", "a1 c2 b3", 4, 2},
		{"plus 3 a", "a1 b2 b6", 0, 4},
		{"plus 3 a", "a1 b3", 0, -1},
		{"not a b c", "a1 b2 c3 a4 c5", 0, 5},
		{"each a b c", "a1 c2 b3", 0, -1},
		{"or plus 5 a seq a b", "a1 b9", 0, 6},
		{"a", "a1000", 0, 1000},
	} {
		if got := impl.MeanFirst(exOf(t, c.look), c.mode, evsOf(t, c.events)); got != c.want {
			t.Errorf("%s of %s, mode %d: %d, want %d", c.look, c.events, c.mode, got, c.want)
		}
	}
}

// MeanUsed: each place once, ascending, however many places share it, and in whatever order they are found.
func TestMeanUsed(t *testing.T) {
	for _, c := range []struct {
		look, events string
		want         [5][]int
	}{
		{"a", "", [5][]int{}},
		{"d", "a1 b2", [5][]int{}},
		{"seq b a", "a1 b2", [5][]int{}},
		{"plus 3 a", "a1 b2", [5][]int{}},
		{"plus 1 a", "a1 b2", [5][]int{{0}, {0}, {0}, {0}, {0}}},
		{"seq a b", "a1 a2 b3 b4", [5][]int{{0, 1, 2, 3}, {1, 2, 3}, {0, 1, 2, 3}, {0, 1, 2}, {0, 1, 2}}},
		{"each a b c", "a1 a2 b3 b4 c5", [5][]int{{0, 1, 2, 3}, {1, 2, 3}, {0, 2, 3}, {0, 1, 2, 3}, {0, 1, 2, 3}}},
		{"or c and a b", "a1 c2 b3", [5][]int{{0, 1, 2}, {0, 1, 2}, {0, 1, 2}, {0, 1, 2}, {0, 1, 2}}},
		{"not a c b", "a1 c2 a3 b4 b5", [5][]int{{2, 3, 4}, {2, 3, 4}, {2, 3}, {2, 3}, {2, 3}}},
		{"or a plus 1 a", "a1 a2 b3", [5][]int{{0, 1}, {0, 1}, {0, 1}, {0, 1}, {0, 1}}},
	} {
		for _, mode := range modes {
			got := impl.MeanUsed(exOf(t, c.look), mode, evsOf(t, c.events))
			if !slices.Equal(got, c.want[mode]) {
				t.Errorf("%s of %s, mode %d: %v, want %v", c.look, c.events, mode, got, c.want[mode])
			}
		}
	}
	everything := exOf(t, "or a or b or c or d e")
	if got := impl.MeanUsed(everything, 0, full()); !slices.Equal(got, upTo(24)) {
		t.Errorf("all events: %v", got)
	}
}

// wrongExs is what can't be looked for.
func wrongExs() map[string]impl.Ex {
	self := make([]impl.Ex, 2)
	self[0], self[1] = node(impl.ExOr, self...), leaf(0)
	list := map[string]impl.Ex{
		"nothing":         {},
		"kind 8":          {Kind: 8},
		"kind -1":         {Kind: -1, Kids: leaves(2)},
		"Sym 5":           leaf(5),
		"Sym -1":          leaf(-1),
		"a letter with N": {Kind: impl.ExSym, N: 1},
		"a letter, a kid": node(impl.ExSym, leaf(0)),
		"or, a Sym":       {Kind: impl.ExOr, Sym: 1, Kids: leaves(2)},
		"plus 0":          plus(0, leaf(0)),
		"plus 21":         plus(21, leaf(0)),
		"plus -1":         plus(-1, leaf(0)),
		"13 parts":        node(impl.ExOr, node(impl.ExOr, node(impl.ExOr, leaves(2)...), node(impl.ExOr, leaves(2)...)), node(impl.ExOr, node(impl.ExOr, leaves(2)...), plus(1, leaf(0)))),
		"6 deep":          plus(1, plus(1, plus(1, plus(1, plus(1, leaf(0)))))),
		"itself":          node(impl.ExOr, self...),
		"wide":            node(impl.ExOr, leaves(5000)...),
	}
	for kind := impl.ExOr; kind <= impl.ExPlus; kind++ {
		few, many := least(kind), least(kind)
		few.Kids = few.Kids[1:]
		many.Kids = append(many.Kids, leaf(0))
		list["too few "+exWord[kind]] = few
		list["too many "+exWord[kind]] = many
	}
	for name, x := range map[string]impl.Ex{"kind 8": {Kind: 8}, "Sym 5": leaf(5), "plus 0": plus(0, leaf(0))} {
		for i, around := range inside(x) {
			list[name+" in "+exWord[around.Kind]+string(rune('0'+i))] = around
		}
	}
	return list
}

// wrongEvs is events that are not ok.
func wrongEvs(t *testing.T) map[string][]impl.Ev {
	t.Helper()
	return map[string][]impl.Ev{
		"nothing":        {{}},
		"At 0":           {{At: 0}, {At: 1}},
		"At -1":          {{At: -1}, {At: 1}},
		"At 1001":        {{At: 1}, {At: 1001}},
		"At far":         {{At: 1}, {At: math.MaxInt}},
		"Sym 5":          {{At: 1}, {Sym: 5, At: 2}},
		"Sym -1":         {{At: 1}, {Sym: -1, At: 2}},
		"Val 101":        {{At: 1}, {At: 2, Val: 101}},
		"Val -1":         {{At: 1}, {At: 2, Val: -1}},
		"two at once":    {{At: 1}, {Sym: 1, At: 1}},
		"out of order":   {{At: 2}, {Sym: 1, At: 1}},
		"later wrong":    append(evsOf(t, "a1 b2 c3"), impl.Ev{Sym: 4, At: 3}),
		"EvMax and one":  row(25),
		"far too many":   row(1000),
		"wrong and more": append(row(30), impl.Ev{}),
	}
}

// Wrong inputs at each function: none, and false, -1, whatever else is right or wrong.
func TestMeanWrong(t *testing.T) {
	right := evsOf(t, "a1 b2 c3 a4 b5")
	for name, x := range wrongExs() {
		for _, mode := range append(slices.Clone(modes), wrongModes...) {
			holdNone(t, name, x, mode, right)
			holdNone(t, name+", no events", x, mode, nil)
			holdNone(t, name+", wrong events", x, mode, []impl.Ev{{}})
		}
	}
	for kind := impl.ExSym; kind <= impl.ExPlus; kind++ {
		x := least(kind)
		for _, mode := range wrongModes {
			holdNone(t, exWord[kind], x, mode, right)
			holdNone(t, exWord[kind]+", no events", x, mode, nil)
		}
		for name, list := range wrongEvs(t) {
			for _, mode := range append(slices.Clone(modes), wrongModes...) {
				holdNone(t, exWord[kind]+", "+name, x, mode, list)
				holdNone(t, "a letter that is not there, "+name, leaf(3), mode, list)
			}
		}
	}
}

// smallExs is all that is looked for in a and b by up to three letters, by one part or by a plus within or around it.
func smallExs() []impl.Ex {
	parts := []impl.Ex{leaf(0), leaf(1)}
	later := []impl.Ex{}
	for _, n := range []int{1, 2} {
		later = append(later, plus(n, leaf(0)), plus(n, plus(1, leaf(0))))
	}
	list := slices.Concat(parts, later)
	for _, a := range parts {
		for _, b := range append(slices.Clone(parts), later[0]) {
			list = append(list, node(impl.ExOr, b, a), node(impl.ExAnd, a, b), node(impl.ExSeq, a, b), node(impl.ExSeq, b, a), plus(1, node(impl.ExAnd, b, a)))
			for _, c := range parts {
				list = append(list, node(impl.ExNot, a, b, c), node(impl.ExEach, a, c, b))
			}
		}
	}
	return list
}

// smallEvs is all events of a and b at so many times, from 1 on.
func smallEvs(times int) [][]impl.Ev {
	lists := [][]impl.Ev{nil}
	for at := 1; at <= times; at++ {
		for _, list := range lists[:len(lists):len(lists)] {
			for sym := range 2 {
				lists = append(lists, append(slices.Clone(list), impl.Ev{Sym: sym, At: at}))
			}
		}
	}
	return lists
}

// P6: all that is small, of all that may happen in a few time units, in each mode.
func TestMeanAllThatIsSmall(t *testing.T) {
	for _, list := range smallEvs(5) {
		for _, x := range smallExs() {
			for _, mode := range modes {
				if _, ok := holdMean(t, x, mode, list); !ok {
					t.Fatalf("%s, mode %d, of %v is too much", textEx(x), mode, list)
				}
			}
		}
	}
}

// someLook is ok, made by a source with a fixed start, of few letters and with short times, so that much is found.
func someLook(r *rand.Rand) impl.Ex {
	for {
		x := someEx(r, 2+r.Intn(4))
		fewer(r, &x, 2+r.Intn(3))
		if okEx(x) {
			return x
		}
	}
}

// fewer takes only so many letters, and shorter times.
func fewer(r *rand.Rand, x *impl.Ex, letters int) {
	if x.Kind == impl.ExSym {
		x.Sym %= letters
	}
	if x.Kind == impl.ExPlus && r.Intn(4) > 0 {
		x.N = 1 + x.N%3
	}
	for i := range x.Kids {
		fewer(r, &x.Kids[i], letters)
	}
}

// someHappened is events that are ok, made likewise.
func someHappened(r *rand.Rand) []impl.Ev {
	list := some(r)
	letters, apart := 1+r.Intn(5), r.Intn(3) == 0
	for i := range list {
		list[i].Sym %= letters
		if !apart {
			list[i].At = i + 1 + i/(2+letters)
		}
	}
	return list
}

// P6: whatever is looked for, whatever happened, in each mode, and now and then in none.
func TestMeanSome(t *testing.T) {
	r := rand.New(rand.NewSource(19))
	full, found, none := 0, 0, 0
	for range 12000 {
		x, list := someLook(r), someHappened(r)
		mode := r.Intn(5)
		if r.Intn(50) == 0 {
			mode = wrongModes[r.Intn(len(wrongModes))]
		}
		if r.Intn(50) == 0 {
			list = append(list, impl.Ev{Sym: r.Intn(6), At: r.Intn(30)})
		}
		got, ok := holdMean(t, x, mode, list, r.Intn(4)-1, 1+r.Intn(30), lastAt(list), lastAt(list)+1)
		switch {
		case !ok && mode >= 0 && mode <= 4 && okEvs(list):
			full++
		case ok && len(got) == 0:
			none++
		case ok:
			found++
			holdMean(t, x, mode, list, got[r.Intn(len(got))].To)
		}
	}
	if full < 100 || found < 4000 || none < 2000 {
		t.Errorf("%d are too much, %d find some, %d none", full, found, none)
	}
}

// P6: what is found at a time is found of what had happened by then: of all events till any time just that is found that is found of all events and is over by then; and what is too much by then is too much for good.
func TestMeanTill(t *testing.T) {
	r := rand.New(rand.NewSource(20))
	full, found, later := 0, 0, 0
	for range 4000 {
		x, list, mode := someLook(r), someHappened(r), r.Intn(5)
		whole, wholeOk := impl.MeanOf(x, mode, list)
		okBefore := true
		for at := -1; at <= min(lastAt(list)+2, 60); at++ {
			till := impl.EvsTill(list, at)
			got, ok := impl.MeanOf(x, mode, till)
			if ok && !okBefore || !ok && wholeOk {
				t.Fatalf("%s, mode %d, of %v: %v at %d, %v of all", textEx(x), mode, list, ok, at, wholeOk)
			}
			okBefore = ok
			if !ok {
				full++
				continue
			}
			if !wholeOk {
				continue
			}
			last := lastAt(till)
			want := slices.DeleteFunc(copiedOccs(whole), func(o impl.Occ) bool { return o.To > last })
			if !sameOccs(got, want) {
				t.Fatalf("%s, mode %d, of %v till %d: %s, want %s", textEx(x), mode, list, at, textOccs(got), textOccs(want))
			}
			found += len(got)
			if last == at && at > 0 {
				then, thenOfAll := impl.MeanAt(x, mode, till, at), impl.MeanAt(x, mode, list, at)
				if !sameOccs(then, thenOfAll) {
					t.Fatalf("%s, mode %d, of %v at %d: %s, of all %s", textEx(x), mode, list, at, textOccs(then), textOccs(thenOfAll))
				}
			}
			later += len(whole) - len(got)
		}
		for _, o := range whole {
			if o.To > lastAt(list) || slices.ContainsFunc(o.Ids, func(id int) bool { return id >= len(list) || list[id].At < o.From || list[id].At > o.To }) {
				t.Fatalf("%s, mode %d, of %v: %v is found of what did not happen by then", textEx(x), mode, list, o)
			}
		}
	}
	if full < 300 || found < 50000 || later < 50000 {
		t.Errorf("%d are too much, %d are found till a time, %d later", full, found, later)
	}
}

// P6: whatever else happens behind a time, what is found till then stays.
func TestMeanWhateverComes(t *testing.T) {
	r := rand.New(rand.NewSource(21))
	found := 0
	for range 4000 {
		x, list, mode := someLook(r), someHappened(r), r.Intn(5)
		if len(list) < 2 {
			continue
		}
		kept := 1 + r.Intn(len(list)-1)
		other := slices.Clone(list)
		for i := kept; i < len(other); i++ {
			other[i].Sym, other[i].Val, other[i].At = r.Intn(5), r.Intn(101), other[i].At+i
		}
		if !okEvs(other) {
			continue
		}
		one, oneOk := impl.MeanOf(x, mode, list)
		two, twoOk := impl.MeanOf(x, mode, other)
		if !oneOk || !twoOk {
			continue
		}
		till := func(o impl.Occ) bool { return o.To > list[kept-1].At }
		one, two = slices.DeleteFunc(one, till), slices.DeleteFunc(two, till)
		if !sameOccs(one, two) {
			t.Fatalf("%s, mode %d, of %v and %v: %s, %s", textEx(x), mode, list, other, textOccs(one), textOccs(two))
		}
		found += len(one)
	}
	if found < 3000 {
		t.Errorf("only %d found", found)
	}
}

// P6: part by part, what is found is what the chapters ahead find of what is found of the kids.
func TestMeanPartByPart(t *testing.T) {
	r := rand.New(rand.NewSource(22))
	for range 4000 {
		x, list, mode := someLook(r), someHappened(r), r.Intn(5)
		var kids [3][]impl.Occ
		kidsOk := true
		for i, kid := range x.Kids {
			var ok bool
			kids[i], ok = impl.MeanOf(kid, mode, list)
			kidsOk = kidsOk && ok
		}
		var want []impl.Occ
		wantOk := true
		switch x.Kind {
		case impl.ExSym:
			continue
		case impl.ExOr:
			want, wantOk = impl.OrOf(kids[0], kids[1])
		case impl.ExAnd:
			want, wantOk = impl.AndOf(mode, kids[0], kids[1])
		case impl.ExSeq:
			want, wantOk = impl.SeqOf(mode, kids[0], kids[1])
		case impl.ExNot:
			want, wantOk = impl.NotOf(mode, kids[0], kids[1], kids[2])
		case impl.ExEach:
			want, wantOk = impl.EachOf(mode, kids[0], kids[1], kids[2])
		case impl.ExPlus:
			want, wantOk = impl.PlusOf(kids[0], x.N, lastAt(list))
		}
		if !kidsOk {
			want, wantOk = nil, false
		}
		if got, ok := impl.MeanOf(x, mode, list); ok != wantOk || !sameOccs(got, want) {
			t.Fatalf("%s, mode %d, of %v: %s, %v, want %s, %v", textEx(x), mode, list, textOccs(got), ok, textOccs(want), wantOk)
		}
	}
}

// Nothing is kept between two calls: the same is looked for in other events and in other modes, in turn, and is found as at first.
func TestMeanKeepsNothing(t *testing.T) {
	x := exOf(t, "or seq a b plus 2 seq a b")
	lists := [][]impl.Ev{evsOf(t, "a1 a2 b3 b5"), evsOf(t, "b1 a2 a3 b4 b7"), nil, evsOf(t, "a1 b2 a3 b4 c6"), {{}}, manyEvents("aaaabbbbbbbbbab")}
	var first []string
	for turn := range 20 {
		var texts []string
		for _, list := range lists {
			for _, mode := range append(slices.Clone(modes), 5) {
				found, _ := holdMean(t, x, mode, list, 4, 5)
				texts = append(texts, textOccs(found))
			}
		}
		if turn == 0 {
			first = texts
		}
		if !slices.Equal(texts, first) {
			t.Fatalf("turn %d: %v, at first %v", turn, texts, first)
		}
	}
}

// An answer is new memory, spare room included, and nothing is written into an argument or behind its end.
func TestMeanMemory(t *testing.T) {
	store := evsOf(t, "a1 b2 a3 c4 b6 a7 b8")
	kept := slices.Clone(store)
	for _, text := range []string{"a", "or a a", "or a plus 1 a", "and a b", "and a a", "seq a b", "not a c b", "each a b c", "plus 1 a", "plus 1 plus 1 a", "or seq a b seq a b", "seq or a c b"} {
		x := exOf(t, text)
		x.Kids = append(make([]impl.Ex, 0, 9), x.Kids...)
		behind := x.Kids[:cap(x.Kids)]
		for many := range 6 {
			list := store[:many]
			for _, mode := range append(slices.Clone(modes), 5) {
				want, _ := meanModel(x, mode, list)
				found, _ := impl.MeanOf(x, mode, list)
				spoilOccs(found)
				for at := range 8 {
					spoilOccs(impl.MeanAt(x, mode, list, at))
				}
				impl.MeanFirst(x, mode, list)
				spoilIds(impl.MeanUsed(x, mode, list))
				if again, _ := impl.MeanOf(x, mode, list); !sameOccs(again, want) {
					t.Fatalf("%s, mode %d: %s, want %s", text, mode, textOccs(again), textOccs(want))
				}
				for place := range want {
					found, _ := impl.MeanOf(x, mode, list)
					spoilIds(found[place].Ids)
					if !sameOccs(slices.Delete(found, place, place+1), slices.Delete(copiedOccs(want), place, place+1)) {
						t.Fatalf("%s, mode %d: Ids at %d share memory", text, mode, place)
					}
				}
			}
		}
		if !same(store, kept) || !sameEx(x, exOf(t, text)) || slices.ContainsFunc(behind[len(x.Kids):], func(kid impl.Ex) bool { return !sameEx(kid, impl.Ex{}) }) {
			t.Fatalf("%s: an argument is changed: %v, %v", text, store, behind)
		}
	}
}
