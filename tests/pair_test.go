package tests

import (
	"fmt"
	"math"
	"math/rand"
	"slices"
	"sort"
	"strings"
	"testing"

	"loop.example/bellman/impl"
)

// modes is all ways to pair.
var modes = []int{0, 1, 2, 3, 4}

// wrongModes is numbers that are no way to pair.
var wrongModes = []int{-1, 5, 6, -5, 256, math.MinInt, math.MaxInt}

// ordered is all of a list, sorted, each once, however many they are.
func ordered(list []impl.Occ) []impl.Occ {
	all := copiedOccs(list)
	sort.Slice(all, func(i, j int) bool { return occKey(all[i]) < occKey(all[j]) })
	return slices.CompactFunc(all, func(a, b impl.Occ) bool { return occKey(a) == occKey(b) })
}

// readOccs is the places of a text such as "1-3(0,2) 2-3(1,2)".
func readOccs(t *testing.T, text string) []impl.Occ {
	t.Helper()
	var list []impl.Occ
	for _, word := range strings.Fields(text) {
		times, ids, _ := strings.Cut(strings.TrimSuffix(word, ")"), "(")
		var o impl.Occ
		if _, err := fmt.Sscanf(times, "%d-%d", &o.From, &o.To); err != nil {
			t.Fatalf("%q: %v", word, err)
		}
		for _, part := range strings.Split(ids, ",") {
			var id int
			if _, err := fmt.Sscan(part, &id); err != nil {
				t.Fatalf("%q: %v", word, err)
			}
			o.Ids = append(o.Ids, id)
		}
		list = append(list, o)
	}
	if textOccs(list) != text {
		t.Fatalf("%q is read as %q", text, textOccs(list))
	}
	return list
}

// pairModel is what waits on two sides, told otherwise: by keys, without an order; it is sorted only when it is asked.
type pairModel struct {
	waits [2]map[string]impl.Occ
	found map[string]impl.Occ
}

func newPairModel(p impl.Pair) *pairModel {
	m := &pairModel{found: map[string]impl.Occ{}}
	for side, list := range [2][]impl.Occ{p.Left, p.Right} {
		m.waits[side] = map[string]impl.Occ{}
		for _, o := range list {
			m.waits[side][occKey(o)] = o
		}
	}
	return m
}

// sorted is all that a map holds, in order.
func sorted(m map[string]impl.Occ) []impl.Occ {
	var keys []string
	for key := range m {
		keys = append(keys, key)
	}
	sort.Strings(keys)
	var list []impl.Occ
	for _, key := range keys {
		list = append(list, m[key])
	}
	return list
}

// tell puts in what is found.
func (m *pairModel) tell(o impl.Occ) { m.found[occKey(o)] = o }

// pair pairs one with those of a side that fit, by the table of the document; it says whether there were any.
func (m *pairModel) pair(mode, side int, o impl.Occ, fits func(impl.Occ) bool) bool {
	some := slices.DeleteFunc(sorted(m.waits[side]), func(w impl.Occ) bool { return !fits(w) })
	if len(some) == 0 {
		return false
	}
	switch mode {
	case 0, 3:
		for _, w := range some {
			m.tell(joinOcc(o, w))
		}
	case 1:
		m.tell(joinOcc(o, some[len(some)-1]))
	case 2:
		m.tell(joinOcc(o, some[0]))
	case 4:
		for _, w := range some {
			o = joinOcc(o, w)
		}
		m.tell(o)
	}
	switch mode {
	case 2:
		delete(m.waits[side], occKey(some[0]))
	case 3, 4:
		for _, w := range some {
			delete(m.waits[side], occKey(w))
		}
	}
	return true
}

// seq is PairSeq.
func (m *pairModel) seq(mode int, left, right []impl.Occ) {
	for _, o := range right {
		m.pair(mode, 0, o, func(w impl.Occ) bool { return w.To < o.From })
	}
	for _, o := range left {
		m.waits[0][occKey(o)] = o
	}
}

// and is PairAnd.
func (m *pairModel) and(mode int, left, right []impl.Occ) {
	for side, list := range [2][]impl.Occ{left, right} {
		for _, o := range list {
			paired := m.pair(mode, 1-side, o, func(impl.Occ) bool { return true })
			if mode == 1 {
				clear(m.waits[side])
			}
			if mode < 2 || !paired {
				m.waits[side][occKey(o)] = o
			}
		}
	}
}

// pairOf is what waits then.
func (m *pairModel) pairOf() impl.Pair {
	return impl.Pair{Left: sorted(m.waits[0]), Right: sorted(m.waits[1])}
}

func samePairs(a, b impl.Pair) bool {
	return sameOccs(a.Left, b.Left) && sameOccs(a.Right, b.Right)
}

func textPair(p impl.Pair) string { return textOccs(p.Left) + " | " + textOccs(p.Right) }

// onePair is PairSeq or PairAnd.
type onePair func(mode int, p impl.Pair, left []impl.Occ, right []impl.Occ) (impl.Pair, []impl.Occ)

// holdStep holds PairSeq and PairAnd against the model, and answers what PairSeq and then what PairAnd answered.
func holdStep(t *testing.T, mode int, p impl.Pair, left, right []impl.Occ) ([2]impl.Pair, [2][]impl.Occ) {
	t.Helper()
	var pairs [2]impl.Pair
	var founds [2][]impl.Occ
	allOk := mode >= 0 && mode <= 4 && okOccs(p.Left) && okOccs(p.Right) && okOccs(left) && okOccs(right)
	for i, name := range []string{"PairSeq", "PairAnd"} {
		var want impl.Pair
		var wantFound []impl.Occ
		if allOk {
			m := newPairModel(p)
			[]func(int, []impl.Occ, []impl.Occ){m.seq, m.and}[i](mode, left, right)
			want, wantFound = m.pairOf(), sorted(m.found)
		}
		got, found := []onePair{impl.PairSeq, impl.PairAnd}[i](mode, p, left, right)
		if !samePairs(got, want) || !sameOccs(found, wantFound) {
			t.Fatalf("%s(%d, %s, %s, %s) = %s, %s, want %s, %s", name, mode, textPair(p), textOccs(left), textOccs(right), textPair(got), textOccs(found), textPair(want), textOccs(wantFound))
		}
		pairs[i], founds[i] = got, found
	}
	return pairs, founds
}

// seqOf is SeqOf without times: one that is over before another begins waits by then, so those of b need only be gone through in order.
func seqOf(mode int, a, b []impl.Occ) []impl.Occ {
	m := newPairModel(impl.Pair{Left: a})
	for _, o := range b {
		m.pair(mode, 0, o, func(w impl.Occ) bool { return w.To < o.From })
	}
	return sorted(m.found)
}

// andOf is AndOf one by one: all of both lists in a row, by To, and at one To those of a first.
func andOf(mode int, a, b []impl.Occ) []impl.Occ {
	type one struct {
		o    impl.Occ
		side int
	}
	var row []one
	for side, list := range [2][]impl.Occ{a, b} {
		for _, o := range list {
			row = append(row, one{o, side})
		}
	}
	sort.SliceStable(row, func(i, j int) bool { return row[i].o.To < row[j].o.To })
	m := newPairModel(impl.Pair{})
	for _, r := range row {
		if r.side == 0 {
			m.and(mode, []impl.Occ{r.o}, nil)
		} else {
			m.and(mode, nil, []impl.Occ{r.o})
		}
	}
	return sorted(m.found)
}

// holdOf holds SeqOf, AndOf and OrOf of two lists against what is told otherwise; it says how many each finds, or -1.
func holdOf(t *testing.T, mode int, a, b []impl.Occ) [3]int {
	t.Helper()
	var sizes [3]int
	listsOk := okOccs(a) && okOccs(b)
	for i, name := range []string{"SeqOf", "AndOf", "OrOf"} {
		var want, got []impl.Occ
		var ok bool
		wantOk := listsOk && (i == 2 || mode >= 0 && mode <= 4)
		switch i {
		case 0:
			got, ok = impl.SeqOf(mode, a, b)
		case 1:
			got, ok = impl.AndOf(mode, a, b)
		case 2:
			got, ok = impl.OrOf(a, b)
		}
		if wantOk {
			switch i {
			case 0:
				want = seqOf(mode, a, b)
			case 1:
				want = andOf(mode, a, b)
			case 2:
				want = ordered(append(copiedOccs(a), b...))
			}
		}
		sizes[i] = len(want)
		if len(want) > 40 {
			want, wantOk = nil, false
		}
		if !wantOk {
			sizes[i] = -1
		}
		if ok != wantOk || !sameOccs(got, want) {
			t.Fatalf("%s(%d, %s, %s) = %s, %v, want %s, %v", name, mode, textOccs(a), textOccs(b), textOccs(got), ok, textOccs(want), wantOk)
		}
	}
	return sizes
}

func TestPairBounds(t *testing.T) {
	if impl.ModeAll != 0 || impl.ModeLast != 1 || impl.ModeFirst != 2 || impl.ModeEach != 3 || impl.ModeSum != 4 || impl.ModeMax != 5 {
		t.Error("constants of the document")
	}
}

func TestPairOk(t *testing.T) {
	for name, c := range map[string]struct {
		list []impl.Occ
		want bool
	}{
		"nil":           {nil, true},
		"empty":         {[]impl.Occ{}, true},
		"some":          {[]impl.Occ{occ(1, 2, 0), occ(2, 2, 1)}, true},
		"OccMax":        {occRow(40), true},
		"one more":      {occRow(41), false},
		"many":          {occRow(3000), false},
		"twice":         {[]impl.Occ{occ(1, 2, 0), occ(1, 2, 0)}, false},
		"out of order":  {[]impl.Occ{occ(2, 2, 0), occ(1, 2, 0)}, false},
		"nothing":       {[]impl.Occ{{}}, false},
		"wrong in it":   {[]impl.Occ{occ(1, 2, 0), occ(2, 2, 1, 1)}, false},
		"To past times": {[]impl.Occ{occ(1, 2001, 0)}, false},
	} {
		for _, p := range []impl.Pair{{Left: c.list}, {Right: c.list}, {Left: c.list, Right: c.list}, {Left: occRow(40), Right: c.list}, {Left: c.list, Right: occRow(1)}} {
			if got := impl.PairOk(p); got != c.want {
				t.Errorf("%s: PairOk = %v", name, got)
			}
		}
	}
	for _, wrong := range wrongOccs() {
		if impl.PairOk(impl.Pair{Left: []impl.Occ{wrong}}) || impl.PairOk(impl.Pair{Right: []impl.Occ{wrong}}) {
			t.Errorf("PairOk of %v", wrong)
		}
	}
}

func TestPairSame(t *testing.T) {
	a, b := []impl.Occ{occ(1, 2, 0), occ(2, 4, 1, 3)}, []impl.Occ{occ(1, 3, 2)}
	wrong := []impl.Occ{occ(9, 8, 3, 3), {}, occ(9, 8, 3, 3)}
	for name, c := range map[string]struct {
		one, two impl.Pair
		want     bool
	}{
		"nothing":           {impl.Pair{}, impl.Pair{}, true},
		"nil and empty":     {impl.Pair{}, impl.Pair{Left: []impl.Occ{}, Right: []impl.Occ{}}, true},
		"the same":          {impl.Pair{Left: a, Right: b}, impl.Pair{Left: copiedOccs(a), Right: copiedOccs(b)}, true},
		"wrong, the same":   {impl.Pair{Left: wrong, Right: wrong}, impl.Pair{Left: copiedOccs(wrong), Right: wrong}, true},
		"long, the same":    {impl.Pair{Left: occRow(300)}, impl.Pair{Left: occRow(300)}, true},
		"sides swapped":     {impl.Pair{Left: a, Right: b}, impl.Pair{Left: b, Right: a}, false},
		"another left":      {impl.Pair{Left: a, Right: b}, impl.Pair{Left: b, Right: b}, false},
		"another right":     {impl.Pair{Left: a, Right: b}, impl.Pair{Left: a, Right: a}, false},
		"fewer on the left": {impl.Pair{Left: a, Right: b}, impl.Pair{Left: a[:1], Right: b}, false},
		"none on the right": {impl.Pair{Left: a, Right: b}, impl.Pair{Left: a}, false},
		"none on the left":  {impl.Pair{Left: a, Right: b}, impl.Pair{Right: b}, false},
		"on the other side": {impl.Pair{Left: a}, impl.Pair{Right: a}, false},
		"another Id":        {impl.Pair{Left: a}, impl.Pair{Left: []impl.Occ{a[0], occ(2, 4, 1, 4)}}, false},
		"another From":      {impl.Pair{Right: b}, impl.Pair{Right: []impl.Occ{occ(2, 3, 2)}}, false},
		"wrong and another": {impl.Pair{Left: wrong}, impl.Pair{Left: wrong[:2]}, false},
	} {
		if impl.PairSame(c.one, c.two) != c.want || impl.PairSame(c.two, c.one) != c.want {
			t.Errorf("%s: want %v", name, c.want)
		}
	}
}

// stepCase is one step, told by texts: what waits on the left and on the right, what is found on the left and on the right, and then, for each mode, what waits and what was found.
type stepCase struct {
	waits, rightWaits, left, right string
	want                           [5]string
}

// holdSteps holds such cases against PairSeq (0) or PairAnd (1), and these against the model.
func holdSteps(t *testing.T, which int, cases map[string]stepCase) {
	t.Helper()
	for name, c := range cases {
		p := impl.Pair{Left: readOccs(t, c.waits), Right: readOccs(t, c.rightWaits)}
		for _, mode := range modes {
			pairs, founds := holdStep(t, mode, p, readOccs(t, c.left), readOccs(t, c.right))
			got := textPair(pairs[which]) + " : " + textOccs(founds[which])
			if got != c.want[mode] {
				t.Errorf("%s: mode %d: %q, want %q", name, mode, got, c.want[mode])
			}
		}
	}
}

// all is one answer in each mode.
func all(want string) [5]string { return [5]string{want, want, want, want, want} }

// P4: two are paired one behind the other just if the first is over before the second begins.
func TestPairSeqEdges(t *testing.T) {
	holdSteps(t, 0, map[string]stepCase{
		"nothing":            {want: all(" |  : ")},
		"none that waits":    {right: "5-5(1)", want: all(" |  : ")},
		"only on the left":   {left: "5-5(1)", want: all("5-5(1) |  : ")},
		"none on the right":  {waits: "1-2(0)", left: "5-5(1)", want: all("1-2(0) 5-5(1) |  : ")},
		"To one less":        {waits: "1-4(0)", right: "5-9(1)", want: [5]string{"1-4(0) |  : 1-9(0,1)", "1-4(0) |  : 1-9(0,1)", " |  : 1-9(0,1)", " |  : 1-9(0,1)", " |  : 1-9(0,1)"}},
		"To is From":         {waits: "1-5(0)", right: "5-9(1)", want: all("1-5(0) |  : ")},
		"To one more":        {waits: "1-6(0)", right: "5-9(1)", want: all("1-6(0) |  : ")},
		"they overlap":       {waits: "3-7(0)", right: "5-9(1)", want: all("3-7(0) |  : ")},
		"around it":          {waits: "1-10(0)", right: "5-9(1)", want: all("1-10(0) |  : ")},
		"within it":          {waits: "6-7(0)", right: "5-9(1)", want: all("6-7(0) |  : ")},
		"behind it":          {waits: "12-13(0)", right: "5-9(1)", want: all("12-13(0) |  : ")},
		"at one time":        {left: "5-5(1)", right: "5-5(1)", want: all("5-5(1) |  : ")},
		"over, but not then": {left: "1-4(0)", right: "5-5(1)", want: all("1-4(0) |  : ")},
		"right stays":        {rightWaits: "1-2(0) 2-3(1)", left: "5-5(2)", right: "6-6(3)", want: all("5-5(2) | 1-2(0) 2-3(1) : ")},
		"right stays, found": {waits: "4-4(4)", rightWaits: "1-2(0)", right: "6-6(3)", want: [5]string{"4-4(4) | 1-2(0) : 4-6(3,4)", "4-4(4) | 1-2(0) : 4-6(3,4)", " | 1-2(0) : 4-6(3,4)", " | 1-2(0) : 4-6(3,4)", " | 1-2(0) : 4-6(3,4)"}},
		"the least times":    {waits: "1-1(0)", right: "2-2(0)", want: [5]string{"1-1(0) |  : 1-2(0)", "1-1(0) |  : 1-2(0)", " |  : 1-2(0)", " |  : 1-2(0)", " |  : 1-2(0)"}},
		"the last times":     {waits: "1-1999(23)", right: "2000-2000(0)", want: [5]string{"1-1999(23) |  : 1-2000(0,23)", "1-1999(23) |  : 1-2000(0,23)", " |  : 1-2000(0,23)", " |  : 1-2000(0,23)", " |  : 1-2000(0,23)"}},
	})
}

// P4: in each mode, of several that wait just those that fit are paired, and what is used up is not used again.
func TestPairSeqModes(t *testing.T) {
	holdSteps(t, 0, map[string]stepCase{
		"several wait": {waits: "1-1(0) 2-2(1) 3-3(2)", right: "4-4(3)", want: [5]string{
			"1-1(0) 2-2(1) 3-3(2) |  : 1-4(0,3) 2-4(1,3) 3-4(2,3)",
			"1-1(0) 2-2(1) 3-3(2) |  : 3-4(2,3)",
			"2-2(1) 3-3(2) |  : 1-4(0,3)",
			" |  : 1-4(0,3) 2-4(1,3) 3-4(2,3)",
			" |  : 1-4(0,1,2,3)",
		}},
		"some overlap": {waits: "1-1(0) 1-3(1) 2-5(2) 1-6(3)", right: "4-6(4)", want: [5]string{
			"1-1(0) 1-3(1) 2-5(2) 1-6(3) |  : 1-6(0,4) 1-6(1,4)",
			"1-1(0) 1-3(1) 2-5(2) 1-6(3) |  : 1-6(1,4)",
			"1-3(1) 2-5(2) 1-6(3) |  : 1-6(0,4)",
			"2-5(2) 1-6(3) |  : 1-6(0,4) 1-6(1,4)",
			"2-5(2) 1-6(3) |  : 1-6(0,1,4)",
		}},
		"several on the right": {waits: "1-1(0) 2-2(1) 3-3(2)", right: "4-5(3) 5-5(4)", want: [5]string{
			"1-1(0) 2-2(1) 3-3(2) |  : 1-5(0,3) 1-5(0,4) 2-5(1,3) 2-5(1,4) 3-5(2,3) 3-5(2,4)",
			"1-1(0) 2-2(1) 3-3(2) |  : 3-5(2,3) 3-5(2,4)",
			"3-3(2) |  : 1-5(0,3) 2-5(1,4)",
			" |  : 1-5(0,3) 2-5(1,3) 3-5(2,3)",
			" |  : 1-5(0,1,2,3)",
		}},
		"several on the right, one uses what the other can't": {waits: "1-1(0) 3-4(1)", right: "3-5(2) 5-5(3)", want: [5]string{
			"1-1(0) 3-4(1) |  : 1-5(0,2) 1-5(0,3) 3-5(1,3)",
			"1-1(0) 3-4(1) |  : 1-5(0,2) 3-5(1,3)",
			" |  : 1-5(0,2) 3-5(1,3)",
			" |  : 1-5(0,2) 3-5(1,3)",
			" |  : 1-5(0,2) 3-5(1,3)",
		}},
		"more on the right than wait": {waits: "1-1(0)", right: "4-5(1) 5-5(2)", want: [5]string{
			"1-1(0) |  : 1-5(0,1) 1-5(0,2)",
			"1-1(0) |  : 1-5(0,1) 1-5(0,2)",
			" |  : 1-5(0,1)",
			" |  : 1-5(0,1)",
			" |  : 1-5(0,1)",
		}},
		"the same found twice": {waits: "1-1(0) 1-2(0)", right: "3-3(0,5)", want: [5]string{
			"1-1(0) 1-2(0) |  : 1-3(0,5)",
			"1-1(0) 1-2(0) |  : 1-3(0,5)",
			"1-2(0) |  : 1-3(0,5)",
			" |  : 1-3(0,5)",
			" |  : 1-3(0,5)",
		}},
		"the same found by two": {waits: "1-1(0,5)", right: "3-5(0) 4-5(5)", want: [5]string{
			"1-1(0,5) |  : 1-5(0,5)",
			"1-1(0,5) |  : 1-5(0,5)",
			" |  : 1-5(0,5)",
			" |  : 1-5(0,5)",
			" |  : 1-5(0,5)",
		}},
		"found out of order": {waits: "3-3(0) 1-4(1)", right: "5-6(2)", want: [5]string{
			"3-3(0) 1-4(1) |  : 1-6(1,2) 3-6(0,2)",
			"3-3(0) 1-4(1) |  : 1-6(1,2)",
			"1-4(1) |  : 3-6(0,2)",
			" |  : 1-6(1,2) 3-6(0,2)",
			" |  : 1-6(0,1,2)",
		}},
	})
}

// What waits stands in order, each once, also if it waits and is found again at the same time.
func TestPairSeqWaits(t *testing.T) {
	holdSteps(t, 0, map[string]stepCase{
		"found again":           {waits: "1-1(0) 2-2(1)", left: "2-2(1)", want: all("1-1(0) 2-2(1) |  : ")},
		"all found again":       {waits: "1-1(0) 2-2(1)", left: "1-1(0) 2-2(1)", want: all("1-1(0) 2-2(1) |  : ")},
		"again and another":     {waits: "1-1(0) 2-2(1)", left: "1-2(0,1) 2-2(1) 2-2(1,2)", want: all("1-1(0) 1-2(0,1) 2-2(1) 2-2(1,2) |  : ")},
		"ahead of what waits":   {waits: "3-3(0) 5-5(1)", left: "1-1(2) 4-4(3) 6-6(4)", want: all("1-1(2) 3-3(0) 4-4(3) 5-5(1) 6-6(4) |  : ")},
		"used up, found again":  {waits: "1-1(0)", left: "1-1(0)", right: "2-2(1)", want: all("1-1(0) |  : 1-2(0,1)")},
		"used up, one again":    {waits: "1-1(0) 1-2(1)", left: "1-2(1)", right: "4-4(2)", want: [5]string{"1-1(0) 1-2(1) |  : 1-4(0,2) 1-4(1,2)", "1-1(0) 1-2(1) |  : 1-4(1,2)", "1-2(1) |  : 1-4(0,2)", "1-2(1) |  : 1-4(0,2) 1-4(1,2)", "1-2(1) |  : 1-4(0,1,2)"}},
		"used up, those behind": {waits: "1-1(0) 3-5(1)", left: "2-5(2)", right: "2-5(3)", want: [5]string{"1-1(0) 2-5(2) 3-5(1) |  : 1-5(0,3)", "1-1(0) 2-5(2) 3-5(1) |  : 1-5(0,3)", "2-5(2) 3-5(1) |  : 1-5(0,3)", "2-5(2) 3-5(1) |  : 1-5(0,3)", "2-5(2) 3-5(1) |  : 1-5(0,3)"}},
	})
}

// P4: both just in time, in whatever order.
func TestPairAndEdges(t *testing.T) {
	holdSteps(t, 1, map[string]stepCase{
		"nothing":            {want: all(" |  : ")},
		"only on the left":   {left: "5-5(1)", want: all("5-5(1) |  : ")},
		"only on the right":  {right: "5-5(1)", want: all(" | 5-5(1) : ")},
		"several, the left":  {left: "4-5(0) 5-5(1)", want: [5]string{"4-5(0) 5-5(1) |  : ", "5-5(1) |  : ", "4-5(0) 5-5(1) |  : ", "4-5(0) 5-5(1) |  : ", "4-5(0) 5-5(1) |  : "}},
		"several, the right": {right: "4-5(0) 5-5(1)", want: [5]string{" | 4-5(0) 5-5(1) : ", " | 5-5(1) : ", " | 4-5(0) 5-5(1) : ", " | 4-5(0) 5-5(1) : ", " | 4-5(0) 5-5(1) : "}},
		"both at one time":   {left: "5-5(1)", right: "4-5(0)", want: [5]string{"5-5(1) | 4-5(0) : 4-5(0,1)", "5-5(1) | 4-5(0) : 4-5(0,1)", " |  : 4-5(0,1)", " |  : 4-5(0,1)", " |  : 4-5(0,1)"}},
		"the same on both":   {left: "5-5(1)", right: "5-5(1)", want: [5]string{"5-5(1) | 5-5(1) : 5-5(1)", "5-5(1) | 5-5(1) : 5-5(1)", " |  : 5-5(1)", " |  : 5-5(1)", " |  : 5-5(1)"}},
		"right waits":        {rightWaits: "1-2(0)", left: "5-5(1)", want: [5]string{"5-5(1) | 1-2(0) : 1-5(0,1)", "5-5(1) | 1-2(0) : 1-5(0,1)", " |  : 1-5(0,1)", " |  : 1-5(0,1)", " |  : 1-5(0,1)"}},
		"left waits":         {waits: "1-2(0)", right: "5-5(1)", want: [5]string{"1-2(0) | 5-5(1) : 1-5(0,1)", "1-2(0) | 5-5(1) : 1-5(0,1)", " |  : 1-5(0,1)", " |  : 1-5(0,1)", " |  : 1-5(0,1)"}},
		"they overlap":       {waits: "3-7(0)", right: "5-9(1)", want: [5]string{"3-7(0) | 5-9(1) : 3-9(0,1)", "3-7(0) | 5-9(1) : 3-9(0,1)", " |  : 3-9(0,1)", " |  : 3-9(0,1)", " |  : 3-9(0,1)"}},
		"one around it":      {waits: "1-10(0)", right: "5-9(1)", want: [5]string{"1-10(0) | 5-9(1) : 1-10(0,1)", "1-10(0) | 5-9(1) : 1-10(0,1)", " |  : 1-10(0,1)", " |  : 1-10(0,1)", " |  : 1-10(0,1)"}},
		"own side waits":     {waits: "1-2(0)", left: "5-5(1)", want: [5]string{"1-2(0) 5-5(1) |  : ", "5-5(1) |  : ", "1-2(0) 5-5(1) |  : ", "1-2(0) 5-5(1) |  : ", "1-2(0) 5-5(1) |  : "}},
		"own side, right":    {rightWaits: "1-2(0)", right: "5-5(1)", want: [5]string{" | 1-2(0) 5-5(1) : ", " | 5-5(1) : ", " | 1-2(0) 5-5(1) : ", " | 1-2(0) 5-5(1) : ", " | 1-2(0) 5-5(1) : "}},
		"own side, ahead":    {waits: "5-5(1)", left: "1-2(0)", want: [5]string{"1-2(0) 5-5(1) |  : ", "1-2(0) |  : ", "1-2(0) 5-5(1) |  : ", "1-2(0) 5-5(1) |  : ", "1-2(0) 5-5(1) |  : "}},
	})
}

// P4: in each mode, with which one is paired, and whether it waits then; what is used up is not used again.
func TestPairAndModes(t *testing.T) {
	holdSteps(t, 1, map[string]stepCase{
		"several wait on the right": {rightWaits: "1-1(0) 2-2(1) 3-3(2)", left: "4-4(3)", want: [5]string{
			"4-4(3) | 1-1(0) 2-2(1) 3-3(2) : 1-4(0,3) 2-4(1,3) 3-4(2,3)",
			"4-4(3) | 1-1(0) 2-2(1) 3-3(2) : 3-4(2,3)",
			" | 2-2(1) 3-3(2) : 1-4(0,3)",
			" |  : 1-4(0,3) 2-4(1,3) 3-4(2,3)",
			" |  : 1-4(0,1,2,3)",
		}},
		"several wait on the left": {waits: "1-1(0) 2-2(1) 3-3(2)", right: "4-4(3)", want: [5]string{
			"1-1(0) 2-2(1) 3-3(2) | 4-4(3) : 1-4(0,3) 2-4(1,3) 3-4(2,3)",
			"1-1(0) 2-2(1) 3-3(2) | 4-4(3) : 3-4(2,3)",
			"2-2(1) 3-3(2) |  : 1-4(0,3)",
			" |  : 1-4(0,3) 2-4(1,3) 3-4(2,3)",
			" |  : 1-4(0,1,2,3)",
		}},
		"both sides at one time, both wait": {waits: "1-1(0)", rightWaits: "2-2(1)", left: "5-5(3)", right: "4-5(2)", want: [5]string{
			"1-1(0) 5-5(3) | 2-2(1) 4-5(2) : 1-5(0,2) 2-5(1,3) 4-5(2,3)",
			"5-5(3) | 4-5(2) : 2-5(1,3) 4-5(2,3)",
			" |  : 1-5(0,2) 2-5(1,3)",
			" |  : 1-5(0,2) 2-5(1,3)",
			" |  : 1-5(0,2) 2-5(1,3)",
		}},
		"several on both at one time": {left: "3-5(0) 4-5(1)", right: "4-5(2) 5-5(3)", want: [5]string{
			"3-5(0) 4-5(1) | 4-5(2) 5-5(3) : 3-5(0,2) 3-5(0,3) 4-5(1,2) 4-5(1,3)",
			"4-5(1) | 5-5(3) : 4-5(1,2) 4-5(1,3)",
			" |  : 3-5(0,2) 4-5(1,3)",
			" | 5-5(3) : 3-5(0,2) 4-5(1,2)",
			" | 5-5(3) : 3-5(0,1,2)",
		}},
		"more on the left than wait": {rightWaits: "1-1(0)", left: "3-5(1) 4-5(2) 5-5(3)", want: [5]string{
			"3-5(1) 4-5(2) 5-5(3) | 1-1(0) : 1-5(0,1) 1-5(0,2) 1-5(0,3)",
			"5-5(3) | 1-1(0) : 1-5(0,1) 1-5(0,2) 1-5(0,3)",
			"4-5(2) 5-5(3) |  : 1-5(0,1)",
			"4-5(2) 5-5(3) |  : 1-5(0,1)",
			"4-5(2) 5-5(3) |  : 1-5(0,1)",
		}},
		"more on the right than wait": {waits: "1-1(0)", right: "3-5(1) 4-5(2) 5-5(3)", want: [5]string{
			"1-1(0) | 3-5(1) 4-5(2) 5-5(3) : 1-5(0,1) 1-5(0,2) 1-5(0,3)",
			"1-1(0) | 5-5(3) : 1-5(0,1) 1-5(0,2) 1-5(0,3)",
			" | 4-5(2) 5-5(3) : 1-5(0,1)",
			" | 4-5(2) 5-5(3) : 1-5(0,1)",
			" | 4-5(2) 5-5(3) : 1-5(0,1)",
		}},
		"used by the left, gone for no one": {waits: "1-1(0)", rightWaits: "1-2(1)", left: "3-3(2)", right: "3-3(3)", want: [5]string{
			"1-1(0) 3-3(2) | 1-2(1) 3-3(3) : 1-3(0,3) 1-3(1,2) 3-3(2,3)",
			"3-3(2) | 3-3(3) : 1-3(1,2) 3-3(2,3)",
			" |  : 1-3(0,3) 1-3(1,2)",
			" |  : 1-3(0,3) 1-3(1,2)",
			" |  : 1-3(0,3) 1-3(1,2)",
		}},
		"the same found twice": {rightWaits: "1-1(0) 1-2(0)", left: "3-3(0,5)", want: [5]string{
			"3-3(0,5) | 1-1(0) 1-2(0) : 1-3(0,5)",
			"3-3(0,5) | 1-1(0) 1-2(0) : 1-3(0,5)",
			" | 1-2(0) : 1-3(0,5)",
			" |  : 1-3(0,5)",
			" |  : 1-3(0,5)",
		}},
		"the same found from both sides": {waits: "1-1(0)", rightWaits: "1-1(0)", left: "3-3(1)", right: "3-3(1)", want: [5]string{
			"1-1(0) 3-3(1) | 1-1(0) 3-3(1) : 1-3(0,1) 3-3(1)",
			"3-3(1) | 3-3(1) : 1-3(0,1) 3-3(1)",
			" |  : 1-3(0,1)",
			" |  : 1-3(0,1)",
			" |  : 1-3(0,1)",
		}},
		"waits and is found again, the left": {waits: "1-1(0) 2-2(1)", left: "1-1(0)", want: [5]string{
			"1-1(0) 2-2(1) |  : ", "1-1(0) |  : ", "1-1(0) 2-2(1) |  : ", "1-1(0) 2-2(1) |  : ", "1-1(0) 2-2(1) |  : ",
		}},
		"waits and is found again, the right": {rightWaits: "1-1(0) 2-2(1)", right: "2-2(1)", want: [5]string{
			" | 1-1(0) 2-2(1) : ", " | 2-2(1) : ", " | 1-1(0) 2-2(1) : ", " | 1-1(0) 2-2(1) : ", " | 1-1(0) 2-2(1) : ",
		}},
		"waits, is found again, and is paired": {waits: "2-2(1)", rightWaits: "1-1(0)", left: "2-2(1)", want: [5]string{
			"2-2(1) | 1-1(0) : 1-2(0,1)", "2-2(1) | 1-1(0) : 1-2(0,1)", "2-2(1) |  : 1-2(0,1)", "2-2(1) |  : 1-2(0,1)", "2-2(1) |  : 1-2(0,1)",
		}},
		"used up, and found again": {waits: "1-1(0)", right: "2-2(1)", left: "1-1(0)", want: [5]string{
			"1-1(0) | 2-2(1) : 1-2(0,1)", "1-1(0) | 2-2(1) : 1-2(0,1)", " |  : 1-2(0,1)", " |  : 1-2(0,1)", " |  : 1-2(0,1)",
		}},
	})
}

func TestPairModeEdges(t *testing.T) {
	p := impl.Pair{Left: []impl.Occ{occ(1, 1, 0)}, Right: []impl.Occ{occ(1, 2, 1)}}
	left, right := []impl.Occ{occ(3, 4, 2)}, []impl.Occ{occ(4, 4, 3)}
	for mode, want := range map[int]bool{-1: false, 0: true, impl.ModeMax - 1: true, impl.ModeMax: false} {
		_, founds := holdStep(t, mode, p, left, right)
		if (len(founds[0]) > 0) != want || (len(founds[1]) > 0) != want {
			t.Errorf("mode %d: %v", mode, founds)
		}
		_, seqOk := impl.SeqOf(mode, left, right)
		_, andOk := impl.AndOf(mode, left, right)
		if seqOk != want || andOk != want {
			t.Errorf("mode %d: %v, %v", mode, seqOk, andOk)
		}
	}
	for _, mode := range wrongModes {
		holdStep(t, mode, p, left, right)
		holdStep(t, mode, impl.Pair{}, nil, nil)
		if sizes := holdOf(t, mode, left, right); sizes[0] != -1 || sizes[1] != -1 || sizes[2] != 2 {
			t.Errorf("mode %d: %v", mode, sizes)
		}
		holdOf(t, mode, nil, nil)
	}
}

// wrongLists is lists that are not ok.
func wrongLists() [][]impl.Occ {
	lists := [][]impl.Occ{
		occRow(41),
		occRow(3000),
		{occ(2, 3, 1), occ(2, 3, 1)},
		{occ(2, 9, 1), occ(2, 8, 1)},
		{occ(3, 9, 1), occ(2, 9, 1)},
		{occ(3, 9, 1, 2), occ(3, 9, 1)},
		append(occRow(39), impl.Occ{}),
	}
	for _, wrong := range wrongOccs() {
		lists = append(lists, []impl.Occ{wrong}, []impl.Occ{occ(1, 1, 0), wrong}, []impl.Occ{wrong, occ(2000, 2000, 23)})
	}
	return lists
}

func TestPairWrongLists(t *testing.T) {
	fine := []impl.Occ{occ(1, 1, 0), occ(3, 3, 1)}
	for _, wrong := range wrongLists() {
		for _, mode := range append(slices.Clone(modes), -1, 5) {
			for place := range 4 {
				lists := [4][]impl.Occ{fine, fine, fine, fine}
				lists[place] = wrong
				pairs, founds := holdStep(t, mode, impl.Pair{Left: lists[0], Right: lists[1]}, lists[2], lists[3])
				for i := range pairs {
					if len(pairs[i].Left) != 0 || len(pairs[i].Right) != 0 || len(founds[i]) != 0 {
						t.Fatalf("mode %d, list %d is %v: %v, %v", mode, place, wrong, pairs[i], founds[i])
					}
				}
			}
			for _, two := range [][2][]impl.Occ{{wrong, fine}, {fine, wrong}, {wrong, wrong}, {wrong, nil}, {nil, wrong}} {
				if sizes := holdOf(t, mode, two[0], two[1]); sizes != [3]int{-1, -1, -1} {
					t.Fatalf("mode %d of %v: %v", mode, two, sizes)
				}
			}
		}
	}
}

// P4: over two lists, in each mode.
func TestSeqOf(t *testing.T) {
	for name, c := range map[string]struct {
		a, b string
		want [5]string
	}{
		"none":               {"", "", all("")},
		"none on the left":   {"", "1-1(0)", all("")},
		"none on the right":  {"1-1(0)", "", all("")},
		"one behind another": {"1-1(0)", "2-2(1)", all("1-2(0,1)")},
		"the wrong way":      {"2-2(1)", "1-1(0)", all("")},
		"at one time":        {"2-2(1)", "2-2(1)", all("")},
		"To is From":         {"1-3(0)", "3-4(1)", all("")},
		"To one less":        {"1-2(0)", "3-4(1)", all("1-4(0,1)")},
		"To one more":        {"1-4(0)", "3-4(1)", all("")},
		"they overlap":       {"1-4(0)", "3-6(1)", all("")},
		"ended at one time":  {"1-2(0) 1-5(1)", "3-5(2)", all("1-5(0,2)")},
		"two and two":        {"1-1(0) 2-2(1)", "3-3(2) 4-4(3)", [5]string{"1-3(0,2) 2-3(1,2) 1-4(0,3) 2-4(1,3)", "2-3(1,2) 2-4(1,3)", "1-3(0,2) 2-4(1,3)", "1-3(0,2) 2-3(1,2)", "1-3(0,1,2)"}},
		"in turns":           {"1-1(0) 3-3(2)", "2-2(1) 4-4(3)", [5]string{"1-2(0,1) 1-4(0,3) 3-4(2,3)", "1-2(0,1) 3-4(2,3)", "1-2(0,1) 3-4(2,3)", "1-2(0,1) 3-4(2,3)", "1-2(0,1) 3-4(2,3)"}},
		"itself":             {"1-1(0) 2-2(1) 3-3(2)", "1-1(0) 2-2(1) 3-3(2)", [5]string{"1-2(0,1) 1-3(0,2) 2-3(1,2)", "1-2(0,1) 2-3(1,2)", "1-2(0,1) 2-3(1,2)", "1-2(0,1) 2-3(1,2)", "1-2(0,1) 2-3(1,2)"}},
		"long on the right":  {"1-1(0) 2-2(1) 4-4(3)", "3-5(2,4) 6-6(5)", [5]string{"1-5(0,2,4) 2-5(1,2,4) 1-6(0,5) 2-6(1,5) 4-6(3,5)", "2-5(1,2,4) 4-6(3,5)", "1-5(0,2,4) 2-6(1,5)", "1-5(0,2,4) 2-5(1,2,4) 4-6(3,5)", "1-5(0,1,2,4) 4-6(3,5)"}},
		"the same twice":     {"1-1(0) 1-2(0)", "3-3(0,5)", all("1-3(0,5)")},
	} {
		for _, mode := range modes {
			holdOf(t, mode, readOccs(t, c.a), readOccs(t, c.b))
			got, ok := impl.SeqOf(mode, readOccs(t, c.a), readOccs(t, c.b))
			if !ok || textOccs(got) != c.want[mode] {
				t.Errorf("%s: mode %d: %q, %v, want %q", name, mode, textOccs(got), ok, c.want[mode])
			}
		}
	}
}

func TestAndOf(t *testing.T) {
	for name, c := range map[string]struct {
		a, b string
		want [5]string
	}{
		"none":               {"", "", all("")},
		"none on the left":   {"", "1-1(0)", all("")},
		"none on the right":  {"1-1(0)", "", all("")},
		"one behind another": {"1-1(0)", "2-2(1)", all("1-2(0,1)")},
		"the other way":      {"2-2(1)", "1-1(0)", all("1-2(0,1)")},
		"at one time":        {"2-2(1)", "1-2(0)", all("1-2(0,1)")},
		"they overlap":       {"1-4(0)", "3-6(1)", all("1-6(0,1)")},
		"two and two":        {"1-1(0) 2-2(1)", "3-3(2) 4-4(3)", [5]string{"1-3(0,2) 2-3(1,2) 1-4(0,3) 2-4(1,3)", "2-3(1,2) 2-4(1,3)", "1-3(0,2) 2-4(1,3)", "1-3(0,2) 2-3(1,2)", "1-3(0,1,2)"}},
		"two and two, after": {"3-3(2) 4-4(3)", "1-1(0) 2-2(1)", [5]string{"1-3(0,2) 2-3(1,2) 1-4(0,3) 2-4(1,3)", "2-3(1,2) 2-4(1,3)", "1-3(0,2) 2-4(1,3)", "1-3(0,2) 2-3(1,2)", "1-3(0,1,2)"}},
		"itself":             {"1-1(0) 2-2(1)", "1-1(0) 2-2(1)", [5]string{"1-1(0) 1-2(0,1) 2-2(1)", "1-1(0) 1-2(0,1) 2-2(1)", "1-1(0) 2-2(1)", "1-1(0) 2-2(1)", "1-1(0) 2-2(1)"}},
		"in turns":           {"1-1(0) 3-3(2)", "2-2(1) 4-4(3)", [5]string{"1-2(0,1) 2-3(1,2) 1-4(0,3) 3-4(2,3)", "1-2(0,1) 2-3(1,2) 3-4(2,3)", "1-2(0,1) 3-4(2,3)", "1-2(0,1) 3-4(2,3)", "1-2(0,1) 3-4(2,3)"}},
		"used up in between": {"1-1(0) 2-2(1) 5-5(4)", "3-3(2) 4-4(3)", [5]string{"1-3(0,2) 2-3(1,2) 1-4(0,3) 2-4(1,3) 3-5(2,4) 4-5(3,4)", "2-3(1,2) 2-4(1,3) 4-5(3,4)", "1-3(0,2) 2-4(1,3)", "1-3(0,2) 2-3(1,2) 4-5(3,4)", "1-3(0,1,2) 4-5(3,4)"}},
	} {
		for _, mode := range modes {
			holdOf(t, mode, readOccs(t, c.a), readOccs(t, c.b))
			got, ok := impl.AndOf(mode, readOccs(t, c.a), readOccs(t, c.b))
			if !ok || textOccs(got) != c.want[mode] {
				t.Errorf("%s: mode %d: %q, %v, want %q", name, mode, textOccs(got), ok, c.want[mode])
			}
		}
	}
}

func TestOrOf(t *testing.T) {
	for name, c := range map[string]struct{ a, b, want string }{
		"none":          {"", "", ""},
		"one list":      {"1-1(0) 2-2(1)", "", "1-1(0) 2-2(1)"},
		"the other":     {"", "1-1(0) 2-2(1)", "1-1(0) 2-2(1)"},
		"the same":      {"1-1(0) 2-2(1)", "1-1(0) 2-2(1)", "1-1(0) 2-2(1)"},
		"in turns":      {"1-1(0) 3-3(2)", "2-2(1) 4-4(3)", "1-1(0) 2-2(1) 3-3(2) 4-4(3)"},
		"one in both":   {"1-1(0) 2-2(1)", "2-2(1) 4-4(3)", "1-1(0) 2-2(1) 4-4(3)"},
		"last in both":  {"1-1(0) 4-4(3)", "2-2(1) 4-4(3)", "1-1(0) 2-2(1) 4-4(3)"},
		"by From":       {"2-4(0)", "1-4(3)", "1-4(3) 2-4(0)"},
		"by Ids":        {"1-4(1,2)", "1-4(0,9) 1-4(1) 1-4(1,3)", "1-4(0,9) 1-4(1) 1-4(1,2) 1-4(1,3)"},
		"one ahead all": {"5-5(4)", "1-1(0) 2-2(1)", "1-1(0) 2-2(1) 5-5(4)"},
	} {
		a, b := readOccs(t, c.a), readOccs(t, c.b)
		for _, two := range [][2][]impl.Occ{{a, b}, {b, a}} {
			holdOf(t, 0, two[0], two[1])
			got, ok := impl.OrOf(two[0], two[1])
			if !ok || textOccs(got) != c.want {
				t.Errorf("%s: %q, %v, want %q", name, textOccs(got), ok, c.want)
			}
		}
	}
}

// inARow is n places, one at a time from a time on.
func inARow(from, n int) []impl.Occ {
	var list []impl.Occ
	for i := range n {
		list = append(list, occ(from+i, from+i, i%24))
	}
	return list
}

// What is found may be just OccMax; of one more there is none, and false.
func TestPairOccMax(t *testing.T) {
	// Two that wait, joined with one that has the Id 5, are found in one place.
	same := append([]impl.Occ{occ(1, 1, 0), occ(1, 1, 0, 5)}, inARow(2, 4)...)
	with5 := []impl.Occ{occ(100, 100, 5), occ(101, 101, 6), occ(102, 102, 7), occ(103, 103, 8), occ(104, 104, 9), occ(105, 105, 10)}
	one5 := append(copiedOccs(with5), occ(106, 106, 11))
	two5 := append(copiedOccs(with5), occ(106, 106, 5, 11))
	for name, c := range map[string]struct {
		mode int
		a, b []impl.Occ
		want [3]int
	}{
		"all, just OccMax":            {0, inARow(1, 8), inARow(100, 5), [3]int{40, 40, 13}},
		"all, one with OccMax":        {0, inARow(1, 1), inARow(100, 40), [3]int{40, 40, -1}},
		"all, OccMax with one":        {0, inARow(1, 40), inARow(100, 1), [3]int{40, 40, -1}},
		"all, one more, behind":       {0, inARow(1, 8), append([]impl.Occ{occ(2, 2, 20)}, inARow(100, 5)...), [3]int{-1, -1, 14}},
		"all, one more, both":         {0, same, one5, [3]int{-1, -1, 13}},
		"all, OccMax as two are twin": {0, same, two5, [3]int{40, 40, 13}},
		"all, OccMax lists":           {0, inARow(1, 40), inARow(100, 40), [3]int{-1, -1, -1}},
		"last, OccMax lists":          {1, inARow(1, 40), inARow(100, 40), [3]int{40, 40, -1}},
		"last, just OccMax":           {1, inARow(1, 1), inARow(100, 40), [3]int{40, 40, -1}},
		"last, one more":              {1, append(inARow(1, 1), occ(200, 200, 20)), inARow(100, 40), [3]int{40, -1, -1}},
		"first, OccMax lists":         {2, inARow(1, 40), inARow(100, 40), [3]int{40, 40, -1}},
		"each, OccMax lists":          {3, inARow(1, 40), inARow(100, 40), [3]int{40, 40, -1}},
		"each, just OccMax":           {3, append(inARow(1, 20), occ(300, 300, 20)), inARow(100, 21), [3]int{20, 40, -1}},
		"each, one more":              {3, append(inARow(1, 21), occ(300, 300, 20)), inARow(100, 21), [3]int{21, -1, -1}},
		"sum, OccMax lists":           {4, inARow(1, 40), inARow(100, 40), [3]int{1, 1, -1}},
		"or, just OccMax":             {4, inARow(1, 20), inARow(100, 20), [3]int{1, 1, 40}},
		"or, one more":                {4, inARow(1, 20), inARow(100, 21), [3]int{1, 1, -1}},
		"or, the same OccMax":         {4, inARow(1, 40), inARow(1, 40), [3]int{39, 40, 40}},
		"or, one is not the same":     {4, inARow(1, 40), append(inARow(1, 39), occ(40, 40, 23)), [3]int{39, 40, -1}},
	} {
		if sizes := holdOf(t, c.mode, c.a, c.b); sizes != c.want {
			t.Errorf("%s: %v, want %v", name, sizes, c.want)
		}
	}
}

// At one time more than OccMax may be found, and none of it is lost.
func TestPairFoundAtOnce(t *testing.T) {
	for _, c := range []struct{ waits, found, want int }{{8, 5, 40}, {1, 40, 40}, {40, 1, 40}, {6, 7, 42}, {40, 2, 80}, {40, 40, 1600}} {
		var right []impl.Occ
		for i := range c.found {
			right = append(right, occ(500+i, 600, i%8, 8+i/8))
		}
		_, founds := holdStep(t, 0, impl.Pair{Left: inARow(1, c.waits)}, nil, right)
		if len(founds[0]) != c.want || len(founds[1]) != c.want {
			t.Errorf("%v: %d, %d", c, len(founds[0]), len(founds[1]))
		}
		for _, mode := range modes {
			holdStep(t, mode, impl.Pair{Left: inARow(1, c.waits), Right: inARow(50, c.waits)}, right, right)
		}
	}
	// Just one more: all at one To, one of them fits behind one alone.
	right := []impl.Occ{occ(2, 600, 20), occ(500, 600, 1), occ(501, 600, 2), occ(502, 600, 3), occ(503, 600, 4), occ(504, 600, 5)}
	_, founds := holdStep(t, 0, impl.Pair{Left: inARow(1, 8)}, nil, right)
	if len(founds[0]) != 41 || impl.OccsOk(founds[0]) {
		t.Errorf("%d", len(founds[0]))
	}
}

// What waits may be more than OccMax, and all of it is paired within the call; but it is not ok for another one.
func TestPairWaitsMore(t *testing.T) {
	full, more, next := inARow(1, 40), []impl.Occ{occ(50, 50, 3)}, []impl.Occ{occ(60, 60, 4)}
	for _, mode := range modes {
		pairs, _ := holdStep(t, mode, impl.Pair{Left: full, Right: full}, more, nil)
		if got := pairs[0]; len(got.Left) != 41 || len(got.Right) != 40 || impl.PairOk(got) {
			t.Errorf("mode %d: %d and %d wait", mode, len(got.Left), len(got.Right))
		}
		if again, found := impl.PairSeq(mode, pairs[0], nil, next); !samePairs(again, impl.Pair{}) || len(found) != 0 {
			t.Errorf("mode %d: from 41 on: %v, %v", mode, again, found)
		}
		if again, found := impl.PairAnd(mode, pairs[0], nil, next); !samePairs(again, impl.Pair{}) || len(found) != 0 {
			t.Errorf("mode %d: from 41 on: %v, %v", mode, again, found)
		}
		pairs, _ = holdStep(t, mode, impl.Pair{Left: full}, inARow(100, 40), nil)
		if len(pairs[0].Left) != 80 || (mode != 1) != (len(pairs[1].Left) == 80) {
			t.Errorf("mode %d: %d and %d wait", mode, len(pairs[0].Left), len(pairs[1].Left))
		}
	}
	for mode, want := range map[int][3]int{0: {41, 41, 1}, 1: {1, 1, 1}, 2: {1, 40, 0}, 3: {41, 0, 0}, 4: {1, 0, 0}} {
		pairs, founds := holdStep(t, mode, impl.Pair{Left: full}, more, next)
		if got := [3]int{len(founds[1]), len(pairs[1].Left), len(pairs[1].Right)}; got != want {
			t.Errorf("mode %d: %v, want %v", mode, got, want)
		}
	}
}

// someOccs is a list that is ok, at most so many, made by a source with a fixed start; of one To, if to is not 0.
func someOccs(r *rand.Rand, most, to int) []impl.Occ {
	var list []impl.Occ
	for range r.Intn(most + 1) {
		o := impl.Occ{From: 1 + r.Intn(8)}
		o.To = o.From + r.Intn(4)
		if to > 0 {
			o.From, o.To = max(1, to-r.Intn(4)), to
		}
		for len(o.Ids) == 0 {
			for id := range []int{2, 4, 24}[r.Intn(3)] {
				if r.Intn(3) == 0 {
					o.Ids = append(o.Ids, id)
				}
			}
		}
		list = append(list, o)
	}
	list = ordered(list)
	return list[:min(len(list), 40)]
}

// P4: whatever waits and is found, in each mode, and now and then in none.
func TestPairSome(t *testing.T) {
	r := rand.New(rand.NewSource(8))
	found := 0
	for range 12000 {
		mode := r.Intn(5)
		if r.Intn(50) == 0 {
			mode = wrongModes[r.Intn(len(wrongModes))]
		}
		most := []int{2, 5, 12}[r.Intn(3)]
		p := impl.Pair{Left: someOccs(r, most, 0), Right: someOccs(r, most, 0)}
		to := r.Intn(2) * (8 + r.Intn(4))
		left, right := someOccs(r, most, to), someOccs(r, most, to)
		if len(p.Left) > 0 && r.Intn(4) == 0 {
			left = ordered(append(left, p.Left[r.Intn(len(p.Left))]))
		}
		if r.Intn(50) == 0 {
			right = append(right, someOcc(r))
		}
		_, founds := holdStep(t, mode, p, left, right)
		found += len(founds[0]) + len(founds[1])
	}
	if found < 30000 {
		t.Errorf("only %d found", found)
	}
}

// P4: over any two lists, in each mode; some of them are too much.
func TestPairOfSome(t *testing.T) {
	r := rand.New(rand.NewSource(9))
	full, fine := 0, 0
	for range 5000 {
		most := []int{2, 6, 10, 60}[r.Intn(4)]
		a, b := someOccs(r, most, 0), someOccs(r, most, 0)
		if r.Intn(5) == 0 {
			b = copiedOccs(a)
		}
		for _, size := range holdOf(t, r.Intn(5), a, b) {
			if size < 0 {
				full++
			} else {
				fine++
			}
		}
	}
	if full < 300 || fine < 5000 {
		t.Errorf("%d are too much, %d are not", full, fine)
	}
}

// P4: told by pairs alone: with ModeAll just those are found of which the first is over before the second begins, and all of both.
func TestPairAllIsAllPairs(t *testing.T) {
	r := rand.New(rand.NewSource(10))
	for range 4000 {
		a, b := someOccs(r, 6, 0), someOccs(r, 6, 0)
		var behind, both []impl.Occ
		for _, x := range a {
			for _, y := range b {
				both = append(both, joinOcc(x, y))
				if x.To < y.From {
					behind = append(behind, joinOcc(x, y))
				}
			}
		}
		seq, _ := impl.SeqOf(0, a, b)
		and, _ := impl.AndOf(0, a, b)
		if !sameOccs(seq, ordered(behind)) || !sameOccs(and, ordered(both)) {
			t.Fatalf("of %s and %s: %s, %s", textOccs(a), textOccs(b), textOccs(seq), textOccs(and))
		}
	}
}

// P4: what is used up is not used again: of events of one place each, with the modes that use up, none of what waits is in two.
func TestPairUsedUpOnce(t *testing.T) {
	r := rand.New(rand.NewSource(11))
	for range 4000 {
		var lists [2][]impl.Occ
		for id := range 24 {
			side := r.Intn(2)
			lists[side] = append(lists[side], occ(1+id, 1+id, id))
		}
		for _, mode := range []int{2, 3, 4} {
			seq, _ := impl.SeqOf(mode, lists[0], lists[1])
			and, _ := impl.AndOf(mode, lists[0], lists[1])
			for name, found := range map[string][]impl.Occ{"SeqOf": seq, "AndOf": and} {
				used := map[int]int{}
				for _, o := range found {
					for _, id := range o.Ids {
						// With ModeEach the last of the Ids is the one that is paired with each.
						if mode != 3 || id != o.Ids[len(o.Ids)-1] {
							used[id]++
						}
					}
				}
				for id, many := range used {
					if many > 1 {
						t.Fatalf("%s: mode %d uses %d %d times: %s", name, mode, id, many, textOccs(found))
					}
				}
			}
		}
	}
}

// P4: step by step, from one answer to the next, all that is found is what is found over both lists.
func TestPairStepByStep(t *testing.T) {
	r := rand.New(rand.NewSource(12))
	for range 3000 {
		a, b := someOccs(r, 8, 0), someOccs(r, 8, 0)
		mode := r.Intn(5)
		var pairs [2]impl.Pair
		var founds [2][]impl.Occ
		for to := 1; to <= 12; to++ {
			at := func(list []impl.Occ) []impl.Occ {
				return slices.DeleteFunc(copiedOccs(list), func(o impl.Occ) bool { return o.To != to })
			}
			for i, step := range []onePair{impl.PairSeq, impl.PairAnd} {
				var found []impl.Occ
				pairs[i], found = step(mode, pairs[i], at(a), at(b))
				for _, o := range found {
					if o.To != to {
						t.Fatalf("%v is found at %d", o, to)
					}
				}
				founds[i] = append(founds[i], found...)
			}
		}
		for i, of := range []func(int, []impl.Occ, []impl.Occ) ([]impl.Occ, bool){impl.SeqOf, impl.AndOf} {
			got, ok := of(mode, a, b)
			if ok != (len(founds[i]) <= 40) || ok && !sameOccs(got, founds[i]) {
				t.Fatalf("mode %d of %s and %s: %s, step by step %s", mode, textOccs(a), textOccs(b), textOccs(got), textOccs(founds[i]))
			}
		}
	}
}

// An answer is new memory, spare room included, and nothing is written into an argument or behind its end.
func TestPairMemory(t *testing.T) {
	ids := []int{1, 3, 5, 7, 9, 11}
	store := []impl.Occ{occ(1, 1, 1), {From: 1, To: 2, Ids: ids[:2]}, occ(2, 2, 0), {From: 3, To: 3, Ids: ids[2:3]}, occ(6, 6, 2), occ(7, 7, 4), occ(8, 8, 2)}
	kept, keptIds := copiedOccs(store), slices.Clone(ids)
	for _, mode := range append(slices.Clone(modes), -1, 5) {
		for from := range 4 {
			for to := from; to < 6; to++ {
				p := impl.Pair{Left: store[:from], Right: store[from:to]}
				left, right := store[from:to], store[max(to-1, 0):6]
				impl.PairOk(p)
				impl.PairSame(p, impl.Pair{Left: left, Right: right})
				for _, step := range []onePair{impl.PairSeq, impl.PairAnd} {
					got, found := step(mode, p, left, right)
					spoilOccs(got.Left)
					spoilOccs(got.Right)
					spoilOccs(found)
				}
				for _, of := range []func(int, []impl.Occ, []impl.Occ) ([]impl.Occ, bool){impl.SeqOf, impl.AndOf} {
					found, _ := of(mode, left, right)
					spoilOccs(found)
					found, _ = of(mode, right, right)
					spoilOccs(found)
				}
				for _, two := range [][2][]impl.Occ{{left, right}, {left, nil}, {nil, left}, {left, left}} {
					found, _ := impl.OrOf(two[0], two[1])
					spoilOccs(found)
				}
				if !sameOccs(store, kept) || !slices.Equal(ids, keptIds) {
					t.Fatalf("mode %d: an argument is changed: %v, %v", mode, store, ids)
				}
			}
		}
	}
}

// No two lists of one answer share memory: neither sides, nor what is found, nor Ids, also where arguments do.
func TestPairMemoryOfAnswers(t *testing.T) {
	shared := []int{4, 5}
	early := []impl.Occ{{From: 1, To: 1, Ids: shared}, {From: 1, To: 2, Ids: shared}}
	late := []impl.Occ{{From: 5, To: 5, Ids: shared}, {From: 4, To: 6, Ids: shared}}
	p := impl.Pair{Left: early, Right: early}
	for _, mode := range modes {
		for i, step := range []onePair{impl.PairSeq, impl.PairAnd} {
			for spoilt := range 3 {
				pairs, founds := holdStep(t, mode, p, late, late)
				want := [3][]impl.Occ{copiedOccs(pairs[i].Left), copiedOccs(pairs[i].Right), copiedOccs(founds[i])}
				got, found := step(mode, p, late, late)
				lists := [3][]impl.Occ{got.Left, got.Right, found}
				spoilOccs(lists[spoilt])
				for j := range lists {
					if j != spoilt && !sameOccs(lists[j], want[j]) {
						t.Errorf("mode %d: lists %d and %d of one answer share memory", mode, spoilt, j)
					}
				}
				for place := range want[spoilt] {
					got, found := step(mode, p, late, late)
					list := [3][]impl.Occ{got.Left, got.Right, found}[spoilt]
					spoilIds(list[place].Ids)
					if !sameOccs(slices.Delete(list, place, place+1), slices.Delete(copiedOccs(want[spoilt]), place, place+1)) {
						t.Errorf("mode %d: Ids of list %d share memory", mode, spoilt)
					}
				}
			}
		}
	}
	want := append(copiedOccs(early), late...)
	for place := range want {
		for _, two := range [][2][]impl.Occ{{early, late}, {late, early}} {
			got, _ := impl.OrOf(two[0], two[1])
			spoilIds(got[place].Ids)
			if !sameOccs(slices.Delete(got, place, place+1), slices.Delete(copiedOccs(want), place, place+1)) {
				t.Errorf("OrOf: Ids at %d share memory: %v", place, got)
			}
		}
	}
}
