package tests

import (
	"math"
	"math/rand"
	"slices"
	"testing"

	"loop.example/bellman/impl"
)

// openTo says whether one is open to another one, told otherwise: none in the middle lies wholly in the time units that are free between the two.
func openTo(first, other impl.Occ, mid []impl.Occ) bool {
	for _, m := range mid {
		if m.From >= first.To+1 && m.To+1 <= other.From {
			return false
		}
	}
	return first.To+1 <= other.From
}

// spanModel is a span, told otherwise: what waits on the left is the left side of a pairModel, and nothing of the middle is in order.
type spanModel struct {
	*pairModel
	mid []impl.Occ
}

func newSpanModel(s impl.Span) *spanModel {
	return &spanModel{newPairModel(impl.Pair{Left: s.Left}), copiedOccs(s.Mid)}
}

// ends pairs some, each with what is open to it; used says whether what does not go on waiting is gone.
func (m *spanModel) ends(mode int, used bool, some []impl.Occ) {
	for _, o := range some {
		kept := m.waits[0]
		if !used {
			m.waits[0] = map[string]impl.Occ{}
			for key, w := range kept {
				m.waits[0][key] = w
			}
		}
		m.pair(mode, 0, o, func(w impl.Occ) bool { return openTo(w, o, m.mid) })
		if !used {
			m.waits[0] = kept
		}
	}
}

// come lets some wait on the left, and puts some into the middle.
func (m *spanModel) come(left, mid []impl.Occ) {
	for _, o := range left {
		m.waits[0][occKey(o)] = o
	}
	m.mid = append(m.mid, mid...)
}

// not is SpanNot.
func (m *spanModel) not(mode int, a, b, c []impl.Occ) {
	m.ends(mode, true, c)
	m.come(a, b)
}

// each is SpanEach.
func (m *spanModel) each(mode int, a, b, c []impl.Occ) {
	m.ends(mode, false, b)
	m.come(a, c)
}

// spanOf is the span then.
func (m *spanModel) spanOf() impl.Span {
	return impl.Span{Left: sorted(m.waits[0]), Mid: ordered(m.mid)}
}

func sameSpans(a, b impl.Span) bool {
	return sameOccs(a.Left, b.Left) && sameOccs(a.Mid, b.Mid)
}

func textSpan(s impl.Span) string { return textOccs(s.Left) + " | " + textOccs(s.Mid) }

// oneSpan is SpanNot or SpanEach.
type oneSpan func(mode int, s impl.Span, a []impl.Occ, b []impl.Occ, c []impl.Occ) (impl.Span, []impl.Occ)

// allSpans is NotOf or EachOf.
type allSpans func(mode int, a []impl.Occ, b []impl.Occ, c []impl.Occ) ([]impl.Occ, bool)

var (
	spanNames = []string{"Not", "Each"}
	spanSteps = []oneSpan{impl.SpanNot, impl.SpanEach}
	spanAlls  = []allSpans{impl.NotOf, impl.EachOf}
)

// holdSpan holds SpanNot and SpanEach against the model, and answers what SpanNot and then what SpanEach answered.
func holdSpan(t *testing.T, mode int, s impl.Span, a, b, c []impl.Occ) ([2]impl.Span, [2][]impl.Occ) {
	t.Helper()
	var spans [2]impl.Span
	var founds [2][]impl.Occ
	allOk := mode >= 0 && mode <= 4 && okOccs(s.Left) && okOccs(s.Mid) && okOccs(a) && okOccs(b) && okOccs(c)
	for i, name := range spanNames {
		var want impl.Span
		var wantFound []impl.Occ
		if allOk {
			m := newSpanModel(s)
			[]func(int, []impl.Occ, []impl.Occ, []impl.Occ){m.not, m.each}[i](mode, a, b, c)
			want, wantFound = m.spanOf(), sorted(m.found)
		}
		got, found := spanSteps[i](mode, s, a, b, c)
		if !sameSpans(got, want) || !sameOccs(found, wantFound) {
			t.Fatalf("Span%s(%d, %s, %s, %s, %s) = %s, %s, want %s, %s", name, mode, textSpan(s), textOccs(a), textOccs(b), textOccs(c), textSpan(got), textOccs(found), textSpan(want), textOccs(wantFound))
		}
		spans[i], founds[i] = got, found
	}
	return spans, founds
}

// holdSpans holds NotOf and EachOf against what is told without times: what is over before another one begins has come by then, so the others need only be gone through in order. It says how many each finds, or -1.
func holdSpans(t *testing.T, mode int, a, b, c []impl.Occ) [2]int {
	t.Helper()
	var sizes [2]int
	for i, name := range spanNames {
		var want []impl.Occ
		wantOk := mode >= 0 && mode <= 4 && okOccs(a) && okOccs(b) && okOccs(c)
		if wantOk {
			others, mid := c, b
			if i == 1 {
				others, mid = b, c
			}
			m := newSpanModel(impl.Span{Left: a, Mid: mid})
			m.ends(mode, i == 0, others)
			want = sorted(m.found)
		}
		sizes[i] = len(want)
		if len(want) > 40 {
			want, wantOk = nil, false
		}
		if !wantOk {
			sizes[i] = -1
		}
		got, ok := spanAlls[i](mode, a, b, c)
		if ok != wantOk || !sameOccs(got, want) {
			t.Fatalf("%sOf(%d, %s, %s, %s) = %s, %v, want %s, %v", name, mode, textOccs(a), textOccs(b), textOccs(c), textOccs(got), ok, textOccs(want), wantOk)
		}
	}
	return sizes
}

// holdPlus holds PlusOf against what is told otherwise: of all times, those that come n later.
func holdPlus(t *testing.T, list []impl.Occ, n, till int) []impl.Occ {
	t.Helper()
	var want []impl.Occ
	wantOk := okOccs(list) && n > 0 && n < 21
	if wantOk {
		for to := 1; to <= 2000 && to <= till; to++ {
			for _, o := range list {
				if o.To == to-n {
					want = append(want, occ(o.From, to, o.Ids...))
				}
			}
		}
	}
	got, ok := impl.PlusOf(list, n, till)
	if ok != wantOk || !sameOccs(got, want) {
		t.Fatalf("PlusOf(%s, %d, %d) = %s, %v, want %s, %v", textOccs(list), n, till, textOccs(got), ok, textOccs(want), wantOk)
	}
	return got
}

func TestSpanOk(t *testing.T) {
	for name, c := range map[string]struct {
		list []impl.Occ
		want bool
	}{
		"nil":          {nil, true},
		"empty":        {[]impl.Occ{}, true},
		"some":         {[]impl.Occ{occ(1, 2, 0), occ(2, 2, 1)}, true},
		"the last To":  {[]impl.Occ{occ(1, 2000, 0)}, true},
		"OccMax":       {occRow(40), true},
		"one more":     {occRow(41), false},
		"many":         {occRow(3000), false},
		"twice":        {[]impl.Occ{occ(1, 2, 0), occ(1, 2, 0)}, false},
		"out of order": {[]impl.Occ{occ(2, 2, 0), occ(1, 2, 0)}, false},
		"nothing":      {[]impl.Occ{{}}, false},
	} {
		for _, s := range []impl.Span{{Left: c.list}, {Mid: c.list}, {Left: c.list, Mid: c.list}, {Left: occRow(40), Mid: c.list}, {Left: c.list, Mid: occRow(1)}} {
			if got := impl.SpanOk(s); got != c.want {
				t.Errorf("%s: SpanOk = %v", name, got)
			}
		}
	}
	for _, wrong := range wrongLists() {
		if impl.SpanOk(impl.Span{Left: wrong}) || impl.SpanOk(impl.Span{Mid: wrong}) {
			t.Errorf("SpanOk of %v", wrong)
		}
	}
}

func TestSpanSame(t *testing.T) {
	a, b := []impl.Occ{occ(1, 2, 0), occ(2, 4, 1, 3)}, []impl.Occ{occ(1, 3, 2)}
	wrong := []impl.Occ{occ(9, 8, 3, 3), {}, occ(9, 8, 3, 3)}
	for name, c := range map[string]struct {
		one, two impl.Span
		want     bool
	}{
		"nothing":            {impl.Span{}, impl.Span{}, true},
		"nil and empty":      {impl.Span{}, impl.Span{Left: []impl.Occ{}, Mid: []impl.Occ{}}, true},
		"the same":           {impl.Span{Left: a, Mid: b}, impl.Span{Left: copiedOccs(a), Mid: copiedOccs(b)}, true},
		"wrong, the same":    {impl.Span{Left: wrong, Mid: wrong}, impl.Span{Left: copiedOccs(wrong), Mid: wrong}, true},
		"long, the same":     {impl.Span{Mid: occRow(300)}, impl.Span{Mid: occRow(300)}, true},
		"swapped":            {impl.Span{Left: a, Mid: b}, impl.Span{Left: b, Mid: a}, false},
		"another left":       {impl.Span{Left: a, Mid: b}, impl.Span{Left: b, Mid: b}, false},
		"another middle":     {impl.Span{Left: a, Mid: b}, impl.Span{Left: a, Mid: a}, false},
		"fewer on the left":  {impl.Span{Left: a, Mid: b}, impl.Span{Left: a[:1], Mid: b}, false},
		"none in the middle": {impl.Span{Left: a, Mid: b}, impl.Span{Left: a}, false},
		"none on the left":   {impl.Span{Left: a, Mid: b}, impl.Span{Mid: b}, false},
		"on the other side":  {impl.Span{Left: a}, impl.Span{Mid: a}, false},
		"another Id":         {impl.Span{Left: a}, impl.Span{Left: []impl.Occ{a[0], occ(2, 4, 1, 4)}}, false},
		"another From":       {impl.Span{Mid: b}, impl.Span{Mid: []impl.Occ{occ(2, 3, 2)}}, false},
		"another To":         {impl.Span{Mid: b}, impl.Span{Mid: []impl.Occ{occ(1, 4, 2)}}, false},
		"wrong and another":  {impl.Span{Left: wrong}, impl.Span{Left: wrong[:2]}, false},
	} {
		if impl.SpanSame(c.one, c.two) != c.want || impl.SpanSame(c.two, c.one) != c.want {
			t.Errorf("%s: want %v", name, c.want)
		}
	}
}

// spanCase is one step, told by texts: what waits and what is in the middle, what is found of the first, of those that are put into the middle and of the others, and then, for each mode, the span and what was found.
type spanCase struct {
	waits, mid, first, between, other string
	want                              [5]string
}

// holdSpanCases holds such cases against SpanNot (0) or SpanEach (1), and these against the model.
func holdSpanCases(t *testing.T, which int, cases map[string]spanCase) {
	t.Helper()
	for name, c := range cases {
		s := impl.Span{Left: readOccs(t, c.waits), Mid: readOccs(t, c.mid)}
		second, third := readOccs(t, c.between), readOccs(t, c.other)
		if which == 1 {
			second, third = third, second
		}
		for _, mode := range modes {
			spans, founds := holdSpan(t, mode, s, readOccs(t, c.first), second, third)
			got := textSpan(spans[which]) + " : " + textOccs(founds[which])
			if got != c.want[mode] {
				t.Errorf("%s: mode %d: %q, want %q", name, mode, got, c.want[mode])
			}
		}
	}
}

// gone is one that waits, alone, and is paired: it goes on waiting with ModeAll and ModeLast.
func gone(waits, rest string) [5]string {
	return [5]string{waits + rest, waits + rest, rest, rest, rest}
}

// P5: between the end of the first and the beginning of the third there is no second: the edges of both times.
func TestSpanNotEdges(t *testing.T) {
	holdSpanCases(t, 0, map[string]spanCase{
		"nothing":                    {want: all(" |  : ")},
		"only a first":               {first: "5-5(1)", want: all("5-5(1) |  : ")},
		"only a second":              {between: "5-5(1)", want: all(" | 5-5(1) : ")},
		"only a third":               {other: "5-5(1)", want: all(" |  : ")},
		"To one less":                {waits: "1-4(0)", other: "5-9(1)", want: gone("1-4(0)", " |  : 1-9(0,1)")},
		"To is From":                 {waits: "1-5(0)", other: "5-9(1)", want: all("1-5(0) |  : ")},
		"To one more":                {waits: "1-6(0)", other: "5-9(1)", want: all("1-6(0) |  : ")},
		"behind it":                  {waits: "12-13(0)", other: "5-9(1)", want: all("12-13(0) |  : ")},
		"around it":                  {waits: "1-10(0)", other: "5-9(1)", want: all("1-10(0) |  : ")},
		"one between":                {waits: "1-3(0)", mid: "5-6(2)", other: "8-9(1)", want: all("1-3(0) | 5-6(2) : ")},
		"From is To":                 {waits: "1-3(0)", mid: "3-6(2)", other: "8-9(1)", want: gone("1-3(0)", " | 3-6(2) : 1-9(0,1)")},
		"From one more":              {waits: "1-3(0)", mid: "4-6(2)", other: "8-9(1)", want: all("1-3(0) | 4-6(2) : ")},
		"To is From of the third":    {waits: "1-3(0)", mid: "5-8(2)", other: "8-9(1)", want: gone("1-3(0)", " | 5-8(2) : 1-9(0,1)")},
		"To one less than that":      {waits: "1-3(0)", mid: "5-7(2)", other: "8-9(1)", want: all("1-3(0) | 5-7(2) : ")},
		"all that is free":           {waits: "1-3(0)", mid: "4-7(2)", other: "8-9(1)", want: all("1-3(0) | 4-7(2) : ")},
		"all, and a bit of both":     {waits: "1-3(0)", mid: "3-8(2)", other: "8-9(1)", want: gone("1-3(0)", " | 3-8(2) : 1-9(0,1)")},
		"one time unit":              {waits: "1-3(0)", mid: "4-4(2)", other: "5-9(1)", want: all("1-3(0) | 4-4(2) : ")},
		"none is free":               {waits: "1-3(0)", mid: "3-4(2)", other: "4-9(1)", want: gone("1-3(0)", " | 3-4(2) : 1-9(0,1)")},
		"overlaps the first":         {waits: "1-4(0)", mid: "2-6(2)", other: "8-9(1)", want: gone("1-4(0)", " | 2-6(2) : 1-9(0,1)")},
		"within the first":           {waits: "1-4(0)", mid: "2-3(2)", other: "8-9(1)", want: gone("1-4(0)", " | 2-3(2) : 1-9(0,1)")},
		"the same as the first":      {waits: "1-4(0)", mid: "1-4(0)", other: "8-9(1)", want: gone("1-4(0)", " | 1-4(0) : 1-9(0,1)")},
		"overlaps the third":         {waits: "1-4(0)", mid: "6-9(2)", other: "8-9(1)", want: gone("1-4(0)", " | 6-9(2) : 1-9(0,1)")},
		"ahead of the first":         {waits: "4-5(0)", mid: "1-2(2)", other: "8-9(1)", want: gone("4-5(0)", " | 1-2(2) : 4-9(0,1)")},
		"behind the third":           {waits: "1-2(0)", mid: "11-12(2)", other: "8-9(1)", want: gone("1-2(0)", " | 11-12(2) : 1-9(0,1)")},
		"first of several between":   {waits: "1-2(0)", mid: "3-3(3) 1-7(2) 8-8(4)", other: "8-9(1)", want: all("1-2(0) | 3-3(3) 1-7(2) 8-8(4) : ")},
		"last of several between":    {waits: "1-2(0)", mid: "1-1(3) 1-6(2) 4-7(4)", other: "8-9(1)", want: all("1-2(0) | 1-1(3) 1-6(2) 4-7(4) : ")},
		"none of several between":    {waits: "1-2(0)", mid: "1-1(3) 2-7(2) 8-8(4)", other: "8-9(1)", want: gone("1-2(0)", " | 1-1(3) 2-7(2) 8-8(4) : 1-9(0,1)")},
		"third and second at once":   {waits: "1-2(0)", between: "9-9(2)", other: "9-9(1)", want: gone("1-2(0)", " | 9-9(2) : 1-9(0,1)")},
		"the same, both":             {waits: "1-2(0)", between: "9-9(2)", other: "9-9(2)", want: gone("1-2(0)", " | 9-9(2) : 1-9(0,2)")},
		"third and first at once":    {first: "9-9(2)", other: "9-9(1)", want: all("9-9(2) |  : ")},
		"all at once":                {waits: "1-2(0)", first: "9-9(2)", between: "9-9(2)", other: "9-9(2)", want: [5]string{"1-2(0) 9-9(2) | 9-9(2) : 1-9(0,2)", "1-2(0) 9-9(2) | 9-9(2) : 1-9(0,2)", "9-9(2) | 9-9(2) : 1-9(0,2)", "9-9(2) | 9-9(2) : 1-9(0,2)", "9-9(2) | 9-9(2) : 1-9(0,2)"}},
		"a second is there only now": {waits: "1-2(0)", between: "4-5(2)", other: "9-9(1)", want: gone("1-2(0)", " | 4-5(2) : 1-9(0,1)")},
		"a first is there only now":  {first: "1-2(0)", other: "9-9(1)", want: all("1-2(0) |  : ")},
		"the least times":            {waits: "1-1(0)", other: "2-2(0)", want: gone("1-1(0)", " |  : 1-2(0)")},
		"the last times":             {waits: "1-1998(23)", mid: "1999-1999(3)", other: "2000-2000(0)", want: all("1-1998(23) | 1999-1999(3) : ")},
	})
}

// P5: by each mode, with which of those that are open, and what is gone and goes on waiting then.
func TestSpanNotModes(t *testing.T) {
	holdSpanCases(t, 0, map[string]spanCase{
		"several are open": {waits: "1-1(0) 2-2(1) 3-3(2)", other: "6-6(3)", want: [5]string{
			"1-1(0) 2-2(1) 3-3(2) |  : 1-6(0,3) 2-6(1,3) 3-6(2,3)",
			"1-1(0) 2-2(1) 3-3(2) |  : 3-6(2,3)",
			"2-2(1) 3-3(2) |  : 1-6(0,3)",
			" |  : 1-6(0,3) 2-6(1,3) 3-6(2,3)",
			" |  : 1-6(0,1,2,3)",
		}},
		"some are not open, as one came between": {waits: "1-1(0) 2-2(1) 4-4(2) 5-5(3)", mid: "3-3(9)", other: "6-6(4)", want: [5]string{
			"1-1(0) 2-2(1) 4-4(2) 5-5(3) | 3-3(9) : 4-6(2,4) 5-6(3,4)",
			"1-1(0) 2-2(1) 4-4(2) 5-5(3) | 3-3(9) : 5-6(3,4)",
			"1-1(0) 2-2(1) 5-5(3) | 3-3(9) : 4-6(2,4)",
			"1-1(0) 2-2(1) | 3-3(9) : 4-6(2,4) 5-6(3,4)",
			"1-1(0) 2-2(1) | 3-3(9) : 4-6(2,3,4)",
		}},
		"some are not open, as they are not over": {waits: "1-1(0) 2-3(1) 3-5(2) 6-6(3)", other: "5-6(4)", want: [5]string{
			"1-1(0) 2-3(1) 3-5(2) 6-6(3) |  : 1-6(0,4) 2-6(1,4)",
			"1-1(0) 2-3(1) 3-5(2) 6-6(3) |  : 2-6(1,4)",
			"2-3(1) 3-5(2) 6-6(3) |  : 1-6(0,4)",
			"3-5(2) 6-6(3) |  : 1-6(0,4) 2-6(1,4)",
			"3-5(2) 6-6(3) |  : 1-6(0,1,4)",
		}},
		"several thirds": {waits: "1-1(0) 2-2(1) 3-3(2)", other: "5-6(3) 6-6(4)", want: [5]string{
			"1-1(0) 2-2(1) 3-3(2) |  : 1-6(0,3) 1-6(0,4) 2-6(1,3) 2-6(1,4) 3-6(2,3) 3-6(2,4)",
			"1-1(0) 2-2(1) 3-3(2) |  : 3-6(2,3) 3-6(2,4)",
			"3-3(2) |  : 1-6(0,3) 2-6(1,4)",
			" |  : 1-6(0,3) 2-6(1,3) 3-6(2,3)",
			" |  : 1-6(0,1,2,3)",
		}},
		"one is open to one third, and not to the other": {waits: "1-1(0) 5-5(1)", mid: "3-4(9)", other: "4-6(2) 6-6(3)", want: [5]string{
			"1-1(0) 5-5(1) | 3-4(9) : 1-6(0,2) 5-6(1,3)",
			"1-1(0) 5-5(1) | 3-4(9) : 1-6(0,2) 5-6(1,3)",
			" | 3-4(9) : 1-6(0,2) 5-6(1,3)",
			" | 3-4(9) : 1-6(0,2) 5-6(1,3)",
			" | 3-4(9) : 1-6(0,2) 5-6(1,3)",
		}},
		"used up, and found again": {waits: "1-1(0) 2-2(1)", first: "1-1(0)", other: "4-4(2)", want: [5]string{
			"1-1(0) 2-2(1) |  : 1-4(0,2) 2-4(1,2)",
			"1-1(0) 2-2(1) |  : 2-4(1,2)",
			"1-1(0) 2-2(1) |  : 1-4(0,2)",
			"1-1(0) |  : 1-4(0,2) 2-4(1,2)",
			"1-1(0) |  : 1-4(0,1,2)",
		}},
		"the same found twice": {waits: "1-1(0) 1-2(0)", other: "3-3(0,5)", want: [5]string{
			"1-1(0) 1-2(0) |  : 1-3(0,5)",
			"1-1(0) 1-2(0) |  : 1-3(0,5)",
			"1-2(0) |  : 1-3(0,5)",
			" |  : 1-3(0,5)",
			" |  : 1-3(0,5)",
		}},
		"the same found by two thirds": {waits: "1-1(0,5)", other: "3-5(0) 4-5(5)", want: gone("1-1(0,5)", " |  : 1-5(0,5)")},
		"found out of order": {waits: "3-3(0) 1-4(1)", other: "5-6(2)", want: [5]string{
			"3-3(0) 1-4(1) |  : 1-6(1,2) 3-6(0,2)",
			"3-3(0) 1-4(1) |  : 1-6(1,2)",
			"1-4(1) |  : 3-6(0,2)",
			" |  : 1-6(1,2) 3-6(0,2)",
			" |  : 1-6(0,1,2)",
		}},
	})
}

// P5: each second is between: behind the first, and no third came; the edges of both times.
func TestSpanEachEdges(t *testing.T) {
	holdSpanCases(t, 1, map[string]spanCase{
		"nothing":                    {want: all(" |  : ")},
		"only a first":               {first: "5-5(1)", want: all("5-5(1) |  : ")},
		"only a third":               {between: "5-5(1)", want: all(" | 5-5(1) : ")},
		"only a second":              {other: "5-5(1)", want: all(" |  : ")},
		"To one less":                {waits: "1-4(0)", other: "5-9(1)", want: all("1-4(0) |  : 1-9(0,1)")},
		"To is From":                 {waits: "1-5(0)", other: "5-9(1)", want: all("1-5(0) |  : ")},
		"To one more":                {waits: "1-6(0)", other: "5-9(1)", want: all("1-6(0) |  : ")},
		"overlaps the first":         {waits: "1-6(0)", other: "4-9(1)", want: all("1-6(0) |  : ")},
		"a third between":            {waits: "1-3(0)", mid: "5-6(2)", other: "8-9(1)", want: all("1-3(0) | 5-6(2) : ")},
		"From is To":                 {waits: "1-3(0)", mid: "3-6(2)", other: "8-9(1)", want: all("1-3(0) | 3-6(2) : 1-9(0,1)")},
		"From one more":              {waits: "1-3(0)", mid: "4-6(2)", other: "8-9(1)", want: all("1-3(0) | 4-6(2) : ")},
		"To is From of the second":   {waits: "1-3(0)", mid: "5-8(2)", other: "8-9(1)", want: all("1-3(0) | 5-8(2) : 1-9(0,1)")},
		"To one less than that":      {waits: "1-3(0)", mid: "5-7(2)", other: "8-9(1)", want: all("1-3(0) | 5-7(2) : ")},
		"a third overlaps the first": {waits: "1-4(0)", mid: "2-6(2)", other: "8-9(1)", want: all("1-4(0) | 2-6(2) : 1-9(0,1)")},
		"a third ahead of the first": {waits: "4-5(0)", mid: "1-2(2)", other: "8-9(1)", want: all("4-5(0) | 1-2(2) : 4-9(0,1)")},
		"third and second at once":   {waits: "1-2(0)", between: "9-9(2)", other: "9-9(1)", want: all("1-2(0) | 9-9(2) : 1-9(0,1)")},
		"the same, both":             {waits: "1-2(0)", between: "9-9(2)", other: "9-9(2)", want: all("1-2(0) | 9-9(2) : 1-9(0,2)")},
		"second and first at once":   {first: "9-9(2)", other: "9-9(1)", want: all("9-9(2) |  : ")},
		"third and first at once":    {first: "9-9(2)", between: "9-9(2)", want: all("9-9(2) | 9-9(2) : ")},
		"first and third of a time":  {waits: "9-9(2)", mid: "9-9(2)", other: "11-11(3)", want: all("9-9(2) | 9-9(2) : 9-11(2,3)")},
		"all at once":                {waits: "1-2(0)", first: "9-9(2)", between: "9-9(2)", other: "9-9(2)", want: all("1-2(0) 9-9(2) | 9-9(2) : 1-9(0,2)")},
		"a third is there only now":  {waits: "1-2(0)", between: "4-5(2)", other: "9-9(1)", want: all("1-2(0) | 4-5(2) : 1-9(0,1)")},
		"a first is there only now":  {first: "1-2(0)", other: "9-9(1)", want: all("1-2(0) |  : ")},
		"the last times":             {waits: "1-1999(23)", other: "2000-2000(0)", want: all("1-1999(23) |  : 1-2000(0,23)")},
	})
}

// P5: by each mode, with which of those that are open; all go on waiting, whatever the mode.
func TestSpanEachModes(t *testing.T) {
	const three = "1-1(0) 2-2(1) 3-3(2) |  : "
	holdSpanCases(t, 1, map[string]spanCase{
		"several are open": {waits: "1-1(0) 2-2(1) 3-3(2)", other: "6-6(3)", want: [5]string{
			three + "1-6(0,3) 2-6(1,3) 3-6(2,3)",
			three + "3-6(2,3)",
			three + "1-6(0,3)",
			three + "1-6(0,3) 2-6(1,3) 3-6(2,3)",
			three + "1-6(0,1,2,3)",
		}},
		"several seconds, and none is used up": {waits: "1-1(0) 2-2(1) 3-3(2)", other: "5-6(3) 6-6(4)", want: [5]string{
			three + "1-6(0,3) 1-6(0,4) 2-6(1,3) 2-6(1,4) 3-6(2,3) 3-6(2,4)",
			three + "3-6(2,3) 3-6(2,4)",
			three + "1-6(0,3) 1-6(0,4)",
			three + "1-6(0,3) 1-6(0,4) 2-6(1,3) 2-6(1,4) 3-6(2,3) 3-6(2,4)",
			three + "1-6(0,1,2,3) 1-6(0,1,2,4)",
		}},
		"some are not open": {waits: "1-1(0) 2-2(1) 4-4(2) 5-5(3)", mid: "3-3(9)", other: "6-6(4)", want: [5]string{
			"1-1(0) 2-2(1) 4-4(2) 5-5(3) | 3-3(9) : 4-6(2,4) 5-6(3,4)",
			"1-1(0) 2-2(1) 4-4(2) 5-5(3) | 3-3(9) : 5-6(3,4)",
			"1-1(0) 2-2(1) 4-4(2) 5-5(3) | 3-3(9) : 4-6(2,4)",
			"1-1(0) 2-2(1) 4-4(2) 5-5(3) | 3-3(9) : 4-6(2,4) 5-6(3,4)",
			"1-1(0) 2-2(1) 4-4(2) 5-5(3) | 3-3(9) : 4-6(2,3,4)",
		}},
		"the same found twice": {waits: "1-1(0) 1-2(0)", other: "3-3(0,5)", want: all("1-1(0) 1-2(0) |  : 1-3(0,5)")},
		"found by two seconds": {waits: "1-1(0,5)", other: "3-5(0) 4-5(5)", want: all("1-1(0,5) |  : 1-5(0,5)")},
		"found out of order": {waits: "3-3(0) 1-4(1)", other: "5-6(2)", want: [5]string{
			"3-3(0) 1-4(1) |  : 1-6(1,2) 3-6(0,2)",
			"3-3(0) 1-4(1) |  : 1-6(1,2)",
			"3-3(0) 1-4(1) |  : 3-6(0,2)",
			"3-3(0) 1-4(1) |  : 1-6(1,2) 3-6(0,2)",
			"3-3(0) 1-4(1) |  : 1-6(0,1,2)",
		}},
	})
}

// What waits, and what is in the middle, stands in order, each once, also if it is found again, and with one Id that is written by one digit and one by two.
func TestSpanStandsInOrder(t *testing.T) {
	cases := map[string]spanCase{
		"found again":      {waits: "1-1(0) 2-2(1)", mid: "1-1(0) 2-2(1)", first: "2-2(1)", between: "1-1(0)", want: all("1-1(0) 2-2(1) | 1-1(0) 2-2(1) : ")},
		"all found again":  {waits: "1-1(0) 2-2(1)", mid: "1-1(0) 2-2(1)", first: "1-1(0) 2-2(1)", between: "1-1(0) 2-2(1)", want: all("1-1(0) 2-2(1) | 1-1(0) 2-2(1) : ")},
		"ahead and behind": {waits: "3-3(0) 5-5(1)", mid: "3-3(0) 5-5(1)", first: "1-1(2) 4-4(3) 6-6(4)", between: "1-1(2) 4-4(3) 6-6(4)", want: all("1-1(2) 3-3(0) 4-4(3) 5-5(1) 6-6(4) | 1-1(2) 3-3(0) 4-4(3) 5-5(1) 6-6(4) : ")},
		"not by the text":  {waits: "2-9(0) 10-10(1)", mid: "9-9(9) 2-20(1)", first: "3-9(2) 9-10(9) 9-10(10) 2-100(0)", between: "10-19(3) 1-20(9) 1-20(10) 1-20(10,11)", want: all("2-9(0) 3-9(2) 9-10(9) 9-10(10) 10-10(1) 2-100(0) | 9-9(9) 10-19(3) 1-20(9) 1-20(10) 1-20(10,11) 2-20(1) : ")},
		"in the one order": {waits: "4-7(0) 1-8(5)", first: "1-7(9) 4-7(0,1) 2-8(3)", want: all("1-7(9) 4-7(0) 4-7(0,1) 1-8(5) 2-8(3) |  : ")},
	}
	holdSpanCases(t, 0, cases)
	holdSpanCases(t, 1, cases)
}

func TestSpanModeEdges(t *testing.T) {
	s := impl.Span{Left: []impl.Occ{occ(1, 1, 0)}, Mid: []impl.Occ{occ(1, 2, 1)}}
	a, b, c := []impl.Occ{occ(1, 1, 0)}, []impl.Occ{occ(4, 4, 3)}, []impl.Occ{occ(4, 5, 2)}
	for mode, want := range map[int]bool{-1: false, 0: true, impl.ModeMax - 1: true, impl.ModeMax: false} {
		spans, founds := holdSpan(t, mode, s, a, b, c)
		for i := range founds {
			if (len(founds[i]) > 0) != want || (len(spans[i].Left) > 0) != want || (len(spans[i].Mid) > 0) != want {
				t.Errorf("mode %d: %v, %v", mode, spans, founds)
			}
		}
		if sizes := holdSpans(t, mode, a, b, c); (sizes == [2]int{1, 1}) != want {
			t.Errorf("mode %d: %v", mode, sizes)
		}
		if sizes := holdSpans(t, mode, nil, nil, nil); (sizes == [2]int{0, 0}) != want {
			t.Errorf("mode %d of none: %v", mode, sizes)
		}
	}
	for _, mode := range wrongModes {
		holdSpan(t, mode, s, a, b, c)
		holdSpan(t, mode, impl.Span{}, nil, nil, nil)
		for _, lists := range [][3][]impl.Occ{{a, b, c}, {nil, nil, nil}, {a, nil, nil}} {
			if sizes := holdSpans(t, mode, lists[0], lists[1], lists[2]); sizes != [2]int{-1, -1} {
				t.Errorf("mode %d: %v", mode, sizes)
			}
		}
	}
}

func TestSpanWrongLists(t *testing.T) {
	fine := []impl.Occ{occ(1, 1, 0), occ(3, 3, 1)}
	for _, wrong := range wrongLists() {
		for _, mode := range append(slices.Clone(modes), -1, 5) {
			for place := range 5 {
				lists := [5][]impl.Occ{fine, fine, fine, fine, fine}
				lists[place] = wrong
				spans, founds := holdSpan(t, mode, impl.Span{Left: lists[0], Mid: lists[1]}, lists[2], lists[3], lists[4])
				for i := range spans {
					if len(spans[i].Left) != 0 || len(spans[i].Mid) != 0 || len(founds[i]) != 0 {
						t.Fatalf("mode %d, list %d is %v: %v, %v", mode, place, wrong, spans[i], founds[i])
					}
				}
			}
			for _, three := range [][3][]impl.Occ{{wrong, fine, fine}, {fine, wrong, fine}, {fine, fine, wrong}, {wrong, nil, nil}, {nil, wrong, nil}, {nil, nil, wrong}} {
				if sizes := holdSpans(t, mode, three[0], three[1], three[2]); sizes != [2]int{-1, -1} {
					t.Fatalf("mode %d of %v: %v", mode, three, sizes)
				}
			}
		}
		for _, n := range []int{0, 1, 20, 21} {
			for _, till := range []int{-1, 1000, math.MaxInt} {
				if got, ok := impl.PlusOf(wrong, n, till); ok || len(got) != 0 {
					t.Fatalf("PlusOf(%v, %d, %d) = %v, %v", wrong, n, till, got, ok)
				}
			}
		}
	}
}

// spansCase is three lists, and what is found of them in each mode.
type spansCase struct {
	a, b, c string
	want    [5]string
}

// holdSpansCases holds such cases against NotOf (0) or EachOf (1), and these against what is told otherwise.
func holdSpansCases(t *testing.T, which int, cases map[string]spansCase) {
	t.Helper()
	for name, c := range cases {
		for _, mode := range modes {
			first, second, third := readOccs(t, c.a), readOccs(t, c.b), readOccs(t, c.c)
			holdSpans(t, mode, first, second, third)
			got, ok := spanAlls[which](mode, first, second, third)
			if !ok || textOccs(got) != c.want[mode] {
				t.Errorf("%s: mode %d: %q, %v, want %q", name, mode, textOccs(got), ok, c.want[mode])
			}
		}
	}
}

// P5: over three lists, in each mode.
func TestNotOf(t *testing.T) {
	holdSpansCases(t, 0, map[string]spansCase{
		"none":                  {want: all("")},
		"no first":              {"", "2-2(1)", "3-3(2)", all("")},
		"no third":              {"1-1(0)", "2-2(1)", "", all("")},
		"no second":             {"1-1(0)", "", "3-3(2)", all("1-3(0,2)")},
		"a second between":      {"1-1(0)", "2-2(1)", "3-3(2)", all("")},
		"a second ahead":        {"2-2(1)", "1-1(0)", "3-3(2)", all("2-3(1,2)")},
		"a second behind":       {"1-1(0)", "4-4(3)", "3-3(2)", all("1-3(0,2)")},
		"the wrong way":         {"3-3(2)", "", "1-1(0)", all("")},
		"To is From":            {"1-3(0)", "", "3-4(1)", all("")},
		"To one less":           {"1-2(0)", "", "3-4(1)", all("1-4(0,1)")},
		"To one more":           {"1-4(0)", "", "3-4(1)", all("")},
		"overlaps the first":    {"1-3(0)", "2-5(1)", "7-7(2)", all("1-7(0,2)")},
		"begins as it ends":     {"1-3(0)", "3-5(1)", "7-7(2)", all("1-7(0,2)")},
		"begins behind its end": {"1-3(0)", "4-5(1)", "7-7(2)", all("")},
		"ends as it begins":     {"1-3(0)", "4-7(1)", "7-7(2)", all("1-7(0,2)")},
		"ends ahead of it":      {"1-3(0)", "4-6(1)", "7-7(2)", all("")},
		"second and third":      {"1-1(0)", "4-4(1)", "4-4(1) 6-6(2)", [5]string{"1-4(0,1)", "1-4(0,1)", "1-4(0,1)", "1-4(0,1)", "1-4(0,1)"}},
		"first and second":      {"1-1(0)", "1-1(0)", "4-4(1)", all("1-4(0,1)")},
		"first and third":       {"1-1(0) 3-3(1)", "", "1-1(0) 3-3(1)", all("1-3(0,1)")},
		"all three the same":    {"1-1(0) 2-2(1) 3-3(2)", "1-1(0) 2-2(1) 3-3(2)", "1-1(0) 2-2(1) 3-3(2)", all("1-2(0,1) 2-3(1,2)")},
		"long third, later":     {"1-1(0)", "3-3(1)", "5-5(2) 2-6(3)", all("1-6(0,3)")},
		"two and two": {"1-1(0) 2-2(1)", "", "3-3(2) 4-4(3)", [5]string{
			"1-3(0,2) 2-3(1,2) 1-4(0,3) 2-4(1,3)",
			"2-3(1,2) 2-4(1,3)",
			"1-3(0,2) 2-4(1,3)",
			"1-3(0,2) 2-3(1,2)",
			"1-3(0,1,2)",
		}},
		"one that is not open waits on, for a longer one": {"1-1(0) 4-4(2)", "3-3(1)", "5-5(3) 2-6(4) 7-7(5)", [5]string{
			"4-5(2,3) 1-6(0,4) 4-7(2,5)",
			"4-5(2,3) 1-6(0,4) 4-7(2,5)",
			"4-5(2,3) 1-6(0,4)",
			"4-5(2,3) 1-6(0,4)",
			"4-5(2,3) 1-6(0,4)",
		}},
		"in turns": {"1-1(0) 3-3(2) 5-5(4)", "4-4(3)", "2-2(1) 6-6(5) 7-7(6)", [5]string{
			"1-2(0,1) 5-6(4,5) 5-7(4,6)",
			"1-2(0,1) 5-6(4,5) 5-7(4,6)",
			"1-2(0,1) 5-6(4,5)",
			"1-2(0,1) 5-6(4,5)",
			"1-2(0,1) 5-6(4,5)",
		}},
		"the same twice": {"1-1(0) 1-2(0)", "", "3-3(0,5)", all("1-3(0,5)")},
	})
}

// P5: over three lists, in each mode.
func TestEachOf(t *testing.T) {
	holdSpansCases(t, 1, map[string]spansCase{
		"none":                  {want: all("")},
		"no first":              {"", "2-2(1)", "3-3(2)", all("")},
		"no second":             {"1-1(0)", "", "3-3(2)", all("")},
		"no third":              {"1-1(0)", "2-2(1)", "", all("1-2(0,1)")},
		"a third behind":        {"1-1(0)", "2-2(1)", "3-3(2)", all("1-2(0,1)")},
		"a third between":       {"1-1(0)", "3-3(2)", "2-2(1)", all("")},
		"a third ahead":         {"2-2(1)", "3-3(2)", "1-1(0)", all("2-3(1,2)")},
		"the wrong way":         {"3-3(2)", "1-1(0)", "", all("")},
		"To is From":            {"1-3(0)", "3-4(1)", "", all("")},
		"To one less":           {"1-2(0)", "3-4(1)", "", all("1-4(0,1)")},
		"overlaps the first":    {"1-4(0)", "3-6(1)", "", all("")},
		"third overlaps first":  {"1-3(0)", "7-7(2)", "2-5(1)", all("1-7(0,2)")},
		"begins as it ends":     {"1-3(0)", "7-7(2)", "3-5(1)", all("1-7(0,2)")},
		"begins behind its end": {"1-3(0)", "7-7(2)", "4-5(1)", all("")},
		"ends as it begins":     {"1-3(0)", "7-7(2)", "4-7(1)", all("1-7(0,2)")},
		"ends ahead of it":      {"1-3(0)", "7-7(2)", "4-6(1)", all("")},
		"second and third":      {"1-1(0)", "4-4(1) 6-6(2)", "4-4(1)", all("1-4(0,1)")},
		"all three the same":    {"1-1(0) 2-2(1) 3-3(2)", "1-1(0) 2-2(1) 3-3(2)", "1-1(0) 2-2(1) 3-3(2)", all("1-2(0,1) 2-3(1,2)")},
		"several seconds":       {"1-1(0)", "2-2(1) 3-3(2) 5-5(4)", "4-4(3)", all("1-2(0,1) 1-3(0,2)")},
		"two and two": {"1-1(0) 2-2(1)", "3-3(2) 4-4(3)", "", [5]string{
			"1-3(0,2) 2-3(1,2) 1-4(0,3) 2-4(1,3)",
			"2-3(1,2) 2-4(1,3)",
			"1-3(0,2) 1-4(0,3)",
			"1-3(0,2) 2-3(1,2) 1-4(0,3) 2-4(1,3)",
			"1-3(0,1,2) 1-4(0,1,3)",
		}},
		"begun again behind a third": {"1-1(0) 5-5(3)", "2-2(1) 6-6(4) 7-7(5)", "4-4(2)", all("1-2(0,1) 5-6(3,4) 5-7(3,5)")},
		"the same twice":             {"1-1(0) 1-2(0)", "3-3(0,5)", "", all("1-3(0,5)")},
	})
}

// What is found may be just OccMax; of one more there is none, and false.
func TestSpanOccMax(t *testing.T) {
	late := inARow(500, 40)
	for name, c := range map[string]struct {
		mode    int
		a, b, c []impl.Occ
		want    [2]int
	}{
		"not, just OccMax":             {0, inARow(1, 8), late, inARow(100, 5), [2]int{40, 0}},
		"each, just OccMax":            {0, inARow(1, 8), inARow(100, 5), late, [2]int{0, 40}},
		"not, one with OccMax":         {0, inARow(1, 1), late, inARow(100, 40), [2]int{40, 0}},
		"not, OccMax with one":         {0, inARow(1, 40), nil, inARow(100, 1), [2]int{40, 0}},
		"each, OccMax with one":        {0, inARow(1, 40), inARow(100, 1), nil, [2]int{0, 40}},
		"not, one more":                {0, inARow(1, 8), nil, append([]impl.Occ{occ(2, 2, 20)}, inARow(100, 5)...), [2]int{-1, 0}},
		"each, one more":               {0, inARow(1, 8), append([]impl.Occ{occ(2, 2, 20)}, inARow(100, 5)...), nil, [2]int{0, -1}},
		"not, one more but for one":    {0, inARow(1, 8), []impl.Occ{occ(2, 2, 3)}, append([]impl.Occ{occ(3, 3, 20)}, inARow(100, 5)...), [2]int{36, 1}},
		"all, OccMax lists":            {0, inARow(1, 40), inARow(300, 40), inARow(100, 40), [2]int{-1, 0}},
		"last, OccMax lists, not":      {1, inARow(1, 40), inARow(300, 40), inARow(100, 40), [2]int{40, 0}},
		"last, OccMax lists, each":     {1, inARow(1, 40), inARow(100, 40), inARow(300, 40), [2]int{0, 40}},
		"first, OccMax lists, not":     {2, inARow(1, 40), inARow(300, 40), inARow(100, 40), [2]int{40, 0}},
		"first, OccMax lists, each":    {2, inARow(1, 40), inARow(100, 40), inARow(300, 40), [2]int{0, 40}},
		"each way, OccMax lists, not":  {3, inARow(1, 40), inARow(300, 40), inARow(100, 40), [2]int{40, 0}},
		"each way, OccMax lists, each": {3, inARow(1, 40), inARow(100, 40), inARow(300, 40), [2]int{0, -1}},
		"sum, OccMax lists, not":       {4, inARow(1, 40), inARow(300, 40), inARow(100, 40), [2]int{1, 0}},
		"sum, OccMax lists, each":      {4, inARow(1, 40), inARow(100, 40), inARow(300, 40), [2]int{0, 40}},
		"each way, not, just OccMax":   {3, append(inARow(1, 20), inARow(200, 20)...), nil, append(inARow(100, 1), inARow(300, 1)...), [2]int{40, 0}},
		"OccMax as two are twin":       {0, append([]impl.Occ{occ(1, 1, 0), occ(1, 1, 0, 5)}, inARow(2, 4)...), nil, append([]impl.Occ{occ(100, 100, 5)}, append(inARow(106, 5), occ(112, 112, 5, 11))...), [2]int{40, 0}},
		"one more, as they are none":   {0, append([]impl.Occ{occ(1, 1, 0), occ(1, 1, 0, 5)}, inARow(2, 4)...), nil, append([]impl.Occ{occ(100, 100, 5)}, append(inARow(106, 5), occ(112, 112, 11))...), [2]int{-1, 0}},
	} {
		if sizes := holdSpans(t, c.mode, c.a, c.b, c.c); sizes != c.want {
			t.Errorf("%s: %v, want %v", name, sizes, c.want)
		}
	}
}

// By one step more than OccMax may be found, and more may wait or be in the middle, and none of it is lost; but it is not ok for another step.
func TestSpanMore(t *testing.T) {
	for _, c := range []struct{ waits, others, want int }{{8, 5, 40}, {1, 40, 40}, {40, 1, 40}, {6, 7, 42}, {40, 40, 1600}} {
		var others []impl.Occ
		for i := range c.others {
			others = append(others, occ(500+i, 600, i%8, 8+i/8))
		}
		for _, mode := range modes {
			_, founds := holdSpan(t, mode, impl.Span{Left: inARow(1, c.waits)}, nil, others, others)
			if mode == 0 && (len(founds[0]) != c.want || len(founds[1]) != c.want) {
				t.Errorf("%v: %d, %d", c, len(founds[0]), len(founds[1]))
			}
		}
	}
	full, more := inARow(1, 40), []impl.Occ{occ(50, 50, 3)}
	for _, mode := range modes {
		for _, c := range []struct {
			s         impl.Span
			a, b, c   []impl.Occ
			left, mid [2]int
		}{
			{impl.Span{Left: full, Mid: full}, more, nil, nil, [2]int{41, 41}, [2]int{40, 40}},
			{impl.Span{Left: full, Mid: full}, nil, []impl.Occ{occ(1, 50, 3)}, nil, [2]int{40, 40}, [2]int{41, 40}},
			{impl.Span{Left: full, Mid: full}, nil, nil, []impl.Occ{occ(1, 50, 3)}, [2]int{40, 40}, [2]int{40, 41}},
			{impl.Span{Left: full, Mid: full}, full, full, full, [2]int{40, 40}, [2]int{40, 40}},
			{impl.Span{Left: full}, inARow(100, 40), nil, nil, [2]int{80, 80}, [2]int{0, 0}},
		} {
			spans, _ := holdSpan(t, mode, c.s, c.a, c.b, c.c)
			for i, got := range spans {
				if len(got.Left) != c.left[i] || len(got.Mid) != c.mid[i] {
					t.Errorf("mode %d, %s: %d wait, %d are in the middle", mode, spanNames[i], len(got.Left), len(got.Mid))
				}
				again, found := spanSteps[i](mode, got, nil, more, more)
				if fine := c.left[i] < 41 && c.mid[i] < 41; !fine && (!sameSpans(again, impl.Span{}) || len(found) != 0) {
					t.Errorf("mode %d, %s, from there on: %v, %v", mode, spanNames[i], again, found)
				}
			}
		}
	}
}

// P5: what is later is just so much later.
func TestPlusOf(t *testing.T) {
	for name, c := range map[string]struct {
		list    string
		n, till int
		want    string
	}{
		"none":                  {"", 1, 1000, ""},
		"one later":             {"1-1(0)", 1, 1000, "1-2(0)"},
		"ExTime later":          {"1-1(0)", 20, 1000, "1-21(0)"},
		"several":               {"1-1(0) 3-5(2,4) 4-5(1) 7-7(6)", 3, 1000, "1-4(0) 3-8(2,4) 4-8(1) 7-10(6)"},
		"just till":             {"1-5(0)", 4, 9, "1-9(0)"},
		"one more than till":    {"1-5(0)", 4, 8, ""},
		"some till":             {"1-5(0) 2-5(1) 6-6(2)", 4, 9, "1-9(0) 2-9(1)"},
		"just 2 times EvTime":   {"1-1996(0)", 4, 2000, "1-2000(0)"},
		"one more":              {"1-1997(0)", 4, 2001, ""},
		"one more, far":         {"1-1997(0)", 4, math.MaxInt, ""},
		"just, far":             {"1-1996(0) 5-1997(3)", 4, math.MaxInt, "1-2000(0)"},
		"the last, ExTime":      {"1-1980(0) 1-1981(0)", 20, 3000, "1-2000(0)"},
		"the last time":         {"1-2000(0)", 1, 3000, ""},
		"the last time, ExTime": {"1-1999(2) 1-2000(0)", 20, math.MaxInt, ""},
		"just 2000, till less":  {"1-1996(0)", 4, 1999, ""},
		"till 0":                {"1-1(0)", 1, 0, ""},
		"till 1":                {"1-1(0)", 1, 1, ""},
		"till 2":                {"1-1(0)", 1, 2, "1-2(0)"},
		"till below 0":          {"1-1(0)", 1, -1, ""},
		"till far below 0":      {"1-1(0) 4-4(3)", 20, math.MinInt, ""},
	} {
		got := holdPlus(t, readOccs(t, c.list), c.n, c.till)
		if textOccs(got) != c.want {
			t.Errorf("%s: %q, want %q", name, textOccs(got), c.want)
		}
	}
	list := inARow(1, 40)
	for n, want := range map[int]bool{0: false, 1: true, impl.ExTime: true, impl.ExTime + 1: false} {
		for _, till := range []int{math.MinInt, -1, 0, 30, 2000, math.MaxInt} {
			holdPlus(t, list, n, till)
			if got, ok := impl.PlusOf(list, n, till); ok != want || !want && len(got) != 0 {
				t.Errorf("PlusOf by %d till %d: %v, %v", n, till, got, ok)
			}
			if _, ok := impl.PlusOf(nil, n, till); ok != want {
				t.Errorf("PlusOf of none by %d till %d: %v", n, till, ok)
			}
		}
	}
	for _, n := range []int{-1, -20, 100, math.MinInt, math.MaxInt, math.MaxInt - 1} {
		holdPlus(t, list, n, 1000)
		holdPlus(t, list, n, math.MaxInt)
		holdPlus(t, nil, n, 1000)
	}
	if got := holdPlus(t, list, 20, 60); len(got) != 40 {
		t.Errorf("%d of 40", len(got))
	}
	if got := holdPlus(t, list, 20, 59); len(got) != 39 {
		t.Errorf("%d of 39", len(got))
	}
}

// P5: whatever is a list, by each n, till each time.
func TestPlusOfSome(t *testing.T) {
	r := rand.New(rand.NewSource(13))
	for range 3000 {
		list := someOccs(r, 40, 0)
		if r.Intn(3) == 0 {
			for i := range list {
				list[i].From += 1975
				list[i].To += 1975
			}
		}
		if r.Intn(20) == 0 {
			list = append(list, someOcc(r))
		}
		till := []int{r.Intn(40), 1970 + r.Intn(40), math.MaxInt}[r.Intn(3)]
		holdPlus(t, list, r.Intn(24)-1, till)
	}
}

// P5: whatever waits, is in the middle and is found, in each mode, and now and then in none.
func TestSpanSome(t *testing.T) {
	r := rand.New(rand.NewSource(14))
	found := 0
	for range 12000 {
		mode := r.Intn(5)
		if r.Intn(50) == 0 {
			mode = wrongModes[r.Intn(len(wrongModes))]
		}
		most := []int{2, 5, 12}[r.Intn(3)]
		s := impl.Span{Left: someOccs(r, most, 0), Mid: someOccs(r, r.Intn(4), 0)}
		to := r.Intn(2) * (8 + r.Intn(4))
		a, b, c := someOccs(r, most, to), someOccs(r, most, to), someOccs(r, most, to)
		if len(s.Left) > 0 && r.Intn(4) == 0 {
			a = ordered(append(a, s.Left[r.Intn(len(s.Left))]))
		}
		if r.Intn(4) == 0 {
			b = copiedOccs(c)
		}
		if r.Intn(50) == 0 {
			c = append(c, someOcc(r))
		}
		_, founds := holdSpan(t, mode, s, a, b, c)
		found += len(founds[0]) + len(founds[1])
	}
	if found < 20000 {
		t.Errorf("only %d found", found)
	}
}

// P5: over any three lists, in each mode; some of them are too much.
func TestSpansOfSome(t *testing.T) {
	r := rand.New(rand.NewSource(15))
	full, some := 0, 0
	for range 5000 {
		most := []int{2, 6, 10, 60}[r.Intn(4)]
		a, b, c := someOccs(r, most, 0), someOccs(r, most, 0), someOccs(r, most, 0)
		if r.Intn(3) == 0 {
			b = b[:min(len(b), 1)]
		}
		if r.Intn(3) == 0 {
			c = c[:min(len(c), 1)]
		}
		switch r.Intn(8) {
		case 0:
			b = copiedOccs(a)
		case 1:
			c = copiedOccs(b)
		case 2:
			c = copiedOccs(a)
		}
		for _, size := range holdSpans(t, r.Intn(5), a, b, c) {
			if size < 0 {
				full++
			} else if size > 0 {
				some++
			}
		}
	}
	if full < 100 || some < 3000 {
		t.Errorf("%d are too much, %d find some", full, some)
	}
}

// P5: told by threes alone: with ModeAll just those are found between which no other one is.
func TestSpanAllIsAllThrees(t *testing.T) {
	r := rand.New(rand.NewSource(16))
	for range 4000 {
		a, b, c := someOccs(r, 6, 0), someOccs(r, 3, 0), someOccs(r, 6, 0)
		var want []impl.Occ
		for _, x := range a {
			for _, z := range c {
				between := slices.ContainsFunc(b, func(y impl.Occ) bool { return x.To < y.From && y.To < z.From })
				if x.To < z.From && !between {
					want = append(want, joinOcc(x, z))
				}
			}
		}
		not, _ := impl.NotOf(0, a, b, c)
		each, _ := impl.EachOf(0, a, c, b)
		if !sameOccs(not, ordered(want)) || !sameOccs(each, ordered(want)) {
			t.Fatalf("of %s, %s and %s: %s, %s", textOccs(a), textOccs(b), textOccs(c), textOccs(not), textOccs(each))
		}
	}
}

// P5: without a second, the first and then the third is one behind the other; with one, nothing else is found with ModeAll.
func TestSpanWithoutMiddle(t *testing.T) {
	r := rand.New(rand.NewSource(17))
	for range 3000 {
		a, b, c := someOccs(r, 8, 0), someOccs(r, 3, 0), someOccs(r, 8, 0)
		for _, mode := range modes {
			not, ok := impl.NotOf(mode, a, nil, c)
			seq, seqOk := impl.SeqOf(mode, a, c)
			if ok != seqOk || !sameOccs(not, seq) {
				t.Fatalf("mode %d of %s and %s: %s, one behind the other %s", mode, textOccs(a), textOccs(c), textOccs(not), textOccs(seq))
			}
		}
		seq, seqOk := impl.SeqOf(0, a, c)
		not, ok := impl.NotOf(0, a, b, c)
		for _, o := range not {
			if seqOk && !slices.ContainsFunc(seq, func(s impl.Occ) bool { return occKey(s) == occKey(o) }) {
				t.Fatalf("%v is not one behind the other: %s, %s", o, textOccs(a), textOccs(c))
			}
		}
		if seqOk && !ok {
			t.Fatalf("more by one between: %s, %s, %s", textOccs(a), textOccs(b), textOccs(c))
		}
	}
}

// P5: step by step, from one answer to the next, all that is found is what is found over the three lists, and each at its time.
func TestSpanStepByStep(t *testing.T) {
	r := rand.New(rand.NewSource(18))
	for range 3000 {
		a, b, c := someOccs(r, 8, 0), someOccs(r, 4, 0), someOccs(r, 8, 0)
		mode := r.Intn(5)
		for i, step := range spanSteps {
			var s impl.Span
			var all []impl.Occ
			for to := 1; to <= 12; to++ {
				at := func(list []impl.Occ) []impl.Occ {
					return slices.DeleteFunc(copiedOccs(list), func(o impl.Occ) bool { return o.To != to })
				}
				var found []impl.Occ
				s, found = step(mode, s, at(a), at(b), at(c))
				for _, o := range found {
					if o.To != to {
						t.Fatalf("%v is found at %d", o, to)
					}
				}
				all = append(all, found...)
			}
			mid := [2][]impl.Occ{b, c}[i]
			if !sameOccs(s.Mid, mid) || i == 1 && !sameOccs(s.Left, a) {
				t.Fatalf("%s: all that came: %s", spanNames[i], textSpan(s))
			}
			got, ok := spanAlls[i](mode, a, b, c)
			if ok != (len(all) <= 40) || ok && !sameOccs(got, all) {
				t.Fatalf("%s, mode %d of %s, %s and %s: %s, step by step %s", spanNames[i], mode, textOccs(a), textOccs(b), textOccs(c), textOccs(got), textOccs(all))
			}
		}
	}
}

// The same call answers the same each time, in whatever order a map is gone through.
func TestSpanSameEachTime(t *testing.T) {
	s := impl.Span{Left: inARow(1, 30), Mid: inARow(12, 3)}
	others := []impl.Occ{occ(40, 50, 1), occ(41, 50, 2), occ(42, 50, 3)}
	for _, mode := range modes {
		first, firstFound := holdSpan(t, mode, s, inARow(31, 5), others, others)
		for range 50 {
			for i, step := range spanSteps {
				again, found := step(mode, s, inARow(31, 5), others, others)
				if !sameSpans(again, first[i]) || !sameOccs(found, firstFound[i]) {
					t.Fatalf("mode %d, %s: %s, %s", mode, spanNames[i], textSpan(again), textOccs(found))
				}
			}
		}
	}
}

// An answer is new memory, spare room included, and nothing is written into an argument or behind its end.
func TestSpanMemory(t *testing.T) {
	ids := []int{1, 3, 5, 7, 9, 11}
	store := []impl.Occ{occ(1, 1, 1), {From: 1, To: 2, Ids: ids[:2]}, occ(2, 2, 0), {From: 3, To: 3, Ids: ids[2:3]}, occ(6, 6, 2), occ(7, 7, 4), occ(8, 8, 2)}
	kept, keptIds := copiedOccs(store), slices.Clone(ids)
	for _, mode := range append(slices.Clone(modes), -1, 5) {
		for from := range 4 {
			for to := from; to < 6; to++ {
				s := impl.Span{Left: store[:from], Mid: store[from:to]}
				a, b, c := store[from:to], store[max(to-1, 0):5], store[max(to-1, 0):6]
				impl.SpanOk(s)
				impl.SpanSame(s, impl.Span{Left: a, Mid: b})
				for _, three := range [][3][]impl.Occ{{a, b, c}, {c, b, a}, {a, a, a}, {nil, a, nil}, {nil, nil, a}, {a, nil, nil}, {nil, nil, nil}} {
					for i, step := range spanSteps {
						got, found := step(mode, s, three[0], three[1], three[2])
						spoilOccs(got.Left)
						spoilOccs(got.Mid)
						spoilOccs(found)
						found, _ = spanAlls[i](mode, three[0], three[1], three[2])
						spoilOccs(found)
					}
				}
				for _, n := range []int{0, 1, 20, 21} {
					for _, till := range []int{-1, 5, 1000, math.MaxInt} {
						found, _ := impl.PlusOf(a, n, till)
						spoilOccs(found)
					}
				}
				if !sameOccs(store, kept) || !slices.Equal(ids, keptIds) {
					t.Fatalf("mode %d: an argument is changed: %v, %v", mode, store, ids)
				}
			}
		}
	}
}

// No two lists of one answer share memory: neither sides, nor what is found, nor Ids, also where arguments do.
func TestSpanMemoryOfAnswers(t *testing.T) {
	shared := []int{4, 5}
	early := []impl.Occ{{From: 1, To: 1, Ids: shared}, {From: 1, To: 2, Ids: shared}}
	late := []impl.Occ{{From: 5, To: 5, Ids: shared}, {From: 4, To: 6, Ids: shared}}
	s := impl.Span{Left: early, Mid: early}
	for _, mode := range modes {
		for i, step := range spanSteps {
			for spoilt := range 3 {
				spans, founds := holdSpan(t, mode, s, late, late, late)
				want := [3][]impl.Occ{copiedOccs(spans[i].Left), copiedOccs(spans[i].Mid), copiedOccs(founds[i])}
				got, found := step(mode, s, late, late, late)
				lists := [3][]impl.Occ{got.Left, got.Mid, found}
				spoilOccs(lists[spoilt])
				for j := range lists {
					if j != spoilt && !sameOccs(lists[j], want[j]) {
						t.Errorf("mode %d: lists %d and %d of one answer share memory", mode, spoilt, j)
					}
				}
				for place := range want[spoilt] {
					got, found := step(mode, s, late, late, late)
					list := [3][]impl.Occ{got.Left, got.Mid, found}[spoilt]
					spoilIds(list[place].Ids)
					if !sameOccs(slices.Delete(list, place, place+1), slices.Delete(copiedOccs(want[spoilt]), place, place+1)) {
						t.Errorf("mode %d: Ids of list %d share memory", mode, spoilt)
					}
				}
			}
		}
	}
	want := holdPlus(t, late, 4, 1000)
	for place := range want {
		got, _ := impl.PlusOf(late, 4, 1000)
		spoilIds(got[place].Ids)
		if !sameOccs(slices.Delete(got, place, place+1), slices.Delete(copiedOccs(want), place, place+1)) {
			t.Errorf("PlusOf: Ids at %d share memory: %v", place, got)
		}
	}
}
