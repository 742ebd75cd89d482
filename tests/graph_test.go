package tests

import (
	"fmt"
	"math"
	"math/rand"
	"slices"
	"strings"
	"testing"

	"loop.example/bellman/impl"
)

// graphModelOf is GraphOf, told otherwise: all parts stand in a row, kids ahead, and of those that are the same the first is kept.
func graphModelOf(x impl.Ex, mode int) impl.Graph {
	if !okEx(x) || mode < 0 || mode > 4 {
		return impl.Graph{}
	}
	var parts []impl.Ex
	var walk func(x impl.Ex)
	walk = func(x impl.Ex) {
		for _, kid := range x.Kids {
			walk(kid)
		}
		parts = append(parts, x)
	}
	walk(x)
	firstIn := func(list []impl.Ex, x impl.Ex) int {
		return slices.IndexFunc(list, func(y impl.Ex) bool { return sameEx(x, y) })
	}
	var kept []impl.Ex
	for i, part := range parts {
		if firstIn(parts, part) == i {
			kept = append(kept, part)
		}
	}
	g := impl.Graph{Mode: mode}
	for _, part := range kept {
		n := impl.Node{Kind: part.Kind, Sym: part.Sym, N: part.N}
		for _, kid := range part.Kids {
			n.Kids = append(n.Kids, firstIn(kept, kid))
		}
		g.Nodes = append(g.Nodes, n)
	}
	return g
}

// okGraph is GraphOk, told otherwise.
func okGraph(g impl.Graph) bool {
	if g.Mode < 0 || g.Mode > 4 || len(g.Nodes) < 1 || len(g.Nodes) > 12 || g.Seen < 0 || g.Seen > 24 || g.Now < 0 || g.Now > 1000 {
		return false
	}
	for place, n := range g.Nodes {
		if n.Kind < 1 || n.Kind > 7 || len(n.Kids) != exKids[n.Kind] || n.Sym < 0 || n.Sym > 4 || n.Many < 0 || n.Many > 40 {
			return false
		}
		if n.Kind == 7 && (n.N < 1 || n.N > 20) || n.Kind != 7 && (n.N != 0 || len(n.Due) > 0) {
			return false
		}
		for _, kid := range n.Kids {
			if kid < 0 || kid >= place {
				return false
			}
		}
		for _, list := range [][]impl.Occ{n.Pair.Left, n.Pair.Right, n.Span.Left, n.Span.Mid, n.Due} {
			if !okOccs(list) {
				return false
			}
		}
		for _, o := range n.Due {
			if o.To <= g.Now {
				return false
			}
		}
	}
	return true
}

// textNode is all that is in a node.
func textNode(n impl.Node) string {
	return fmt.Sprintf("%d %d %d %v [%s] [%s] [%s] %d", n.Kind, n.Sym, n.N, append([]int{}, n.Kids...), textPair(n.Pair), textSpan(n.Span), textOccs(n.Due), n.Many)
}

// textGraph is all that is in a graph: two are the same if their texts are.
func textGraph(g impl.Graph) string {
	text := fmt.Sprint("mode ", g.Mode, " seen ", g.Seen, " now ", g.Now, " full ", g.Full)
	for _, n := range g.Nodes {
		text += "\n  " + textNode(n)
	}
	return text
}

// copiedGraph is the same in memory of its own.
func copiedGraph(g impl.Graph) impl.Graph {
	g.Nodes = slices.Clone(g.Nodes)
	for i := range g.Nodes {
		n := &g.Nodes[i]
		n.Kids = slices.Clone(n.Kids)
		n.Pair = impl.Pair{Left: copiedOccs(n.Pair.Left), Right: copiedOccs(n.Pair.Right)}
		n.Span = impl.Span{Left: copiedOccs(n.Span.Left), Mid: copiedOccs(n.Span.Mid)}
		n.Due = copiedOccs(n.Due)
	}
	return g
}

// nodeModel is a node, told otherwise: nothing in it is in order.
type nodeModel struct {
	impl.Node
	pair *pairModel
	span *spanModel
	due  map[string]impl.Occ
}

// at is what is found at a time, of what is found of its kids then, and of what happens then.
func (n *nodeModel) at(mode, time int, kids [3][]impl.Occ, now []impl.Occ, sym int) []impl.Occ {
	clear(n.pair.found)
	clear(n.span.found)
	switch n.Kind {
	case impl.ExSym:
		if n.Sym == sym {
			return now
		}
		return nil
	case impl.ExOr:
		return ordered(append(copiedOccs(kids[0]), kids[1]...))
	case impl.ExAnd:
		n.pair.and(mode, kids[0], kids[1])
	case impl.ExSeq:
		n.pair.seq(mode, kids[0], kids[1])
	case impl.ExNot:
		n.span.not(mode, kids[0], kids[1], kids[2])
	case impl.ExEach:
		n.span.each(mode, kids[0], kids[1], kids[2])
	case impl.ExPlus:
		come := map[string]impl.Occ{}
		for key, o := range n.due {
			if o.To == time {
				come[key] = o
				delete(n.due, key)
			}
		}
		for _, o := range kids[0] {
			later := occ(o.From, o.To+n.N, o.Ids...)
			n.due[occKey(later)] = later
		}
		return sorted(come)
	}
	return append(sorted(n.pair.found), sorted(n.span.found)...)
}

// node is the node then.
func (n *nodeModel) node() impl.Node {
	then := n.Node
	switch n.Kind {
	case impl.ExAnd, impl.ExSeq:
		then.Pair = n.pair.pairOf()
	case impl.ExNot, impl.ExEach:
		then.Span = n.span.spanOf()
	case impl.ExPlus:
		then.Due = sorted(n.due)
	}
	return then
}

// stepModel is GraphStep, told otherwise: each time till the event's comes, whether anything is due then or not.
func stepModel(g impl.Graph, e impl.Ev) (impl.Graph, []impl.Occ) {
	if !okGraph(g) || g.Full || !okEvs([]impl.Ev{e}) || e.At <= g.Now || g.Seen > 23 {
		return impl.Graph{}, nil
	}
	var nodes []*nodeModel
	for _, n := range g.Nodes {
		m := &nodeModel{Node: n, pair: newPairModel(n.Pair), span: newSpanModel(n.Span), due: map[string]impl.Occ{}}
		for _, o := range n.Due {
			m.due[occKey(o)] = o
		}
		nodes = append(nodes, m)
	}
	next := impl.Graph{Mode: g.Mode, Seen: g.Seen + 1, Now: e.At}
	var all []impl.Occ
	for time := g.Now + 1; time <= e.At; time++ {
		var now []impl.Occ
		if time == e.At {
			now = []impl.Occ{occ(time, time, g.Seen)}
		}
		var found [][]impl.Occ
		for _, n := range nodes {
			var kids [3][]impl.Occ
			for i, kid := range n.Kids {
				kids[i] = found[kid]
			}
			found = append(found, n.at(g.Mode, time, kids, now, e.Sym))
			n.Many += len(found[len(found)-1])
			if n.Many > 40 {
				next.Full = true
				return next, nil
			}
		}
		all = append(all, found[len(found)-1]...)
	}
	for _, n := range nodes {
		next.Nodes = append(next.Nodes, n.node())
	}
	return next, all
}

// holdGraphStep holds GraphStep, GraphOk and GraphSame against the models, and answers what GraphStep did.
func holdGraphStep(t *testing.T, g impl.Graph, e impl.Ev) (impl.Graph, []impl.Occ) {
	t.Helper()
	if ok := impl.GraphOk(g); ok != okGraph(g) {
		t.Fatalf("GraphOk(%s) = %v", textGraph(g), ok)
	}
	want, wantFound := stepModel(g, e)
	next, found := impl.GraphStep(g, e)
	if textGraph(next) != textGraph(want) || !sameOccs(found, wantFound) {
		t.Fatalf("GraphStep(%s, %v)\n= %s: %s\nwant %s: %s", textGraph(g), e, textGraph(next), textOccs(found), textGraph(want), textOccs(wantFound))
	}
	if !impl.GraphSame(next, want) || impl.GraphSame(next, g) != (textGraph(next) == textGraph(g)) {
		t.Fatalf("GraphSame of %s and %s", textGraph(next), textGraph(g))
	}
	return next, found
}

// holdGraphOf holds GraphOf and GraphMany against the model.
func holdGraphOf(t *testing.T, x impl.Ex, mode int) impl.Graph {
	t.Helper()
	g, want := impl.GraphOf(x, mode), graphModelOf(x, mode)
	if textGraph(g) != textGraph(want) || impl.GraphOk(g) != okGraph(want) {
		t.Fatalf("GraphOf(%v, %d) = %s, want %s", x, mode, textGraph(g), textGraph(want))
	}
	if many := len(graphModelOf(x, 0).Nodes); impl.GraphMany(x) != many {
		t.Fatalf("GraphMany(%v) = %d, want %d", x, impl.GraphMany(x), many)
	}
	return g
}

// holdGraph holds all that a graph tells of all that happens against what MeanOf tells, and each step against those of MeanOf of its times, and all of it against the models. What it answers is the text of each step, and "full" of one that is too much.
func holdGraph(t *testing.T, x impl.Ex, mode int, list []impl.Ev) (string, bool) {
	t.Helper()
	g := holdGraphOf(t, x, mode)
	want, wantOk := impl.MeanOf(x, mode, list)
	model, modelOk := meanModel(x, mode, list)
	got, ok := impl.GraphRun(x, mode, list)
	if ok != wantOk || ok != modelOk || !sameOccs(got, want) || !sameOccs(got, model) {
		t.Fatalf("GraphRun(%v, %d, %v) = %s, %v, MeanOf %s, %v, model %s, %v", x, mode, list, textOccs(got), ok, textOccs(want), wantOk, textOccs(model), modelOk)
	}
	if !okEx(x) || mode < 0 || mode > 4 || !okEvs(list) {
		return "", ok
	}
	var texts []string
	for i, e := range list {
		next, found := holdGraphStep(t, g, e)
		then, thenOk := impl.MeanOf(x, mode, list[:i+1])
		if next.Full == thenOk || !next.Full && !impl.GraphOk(next) {
			t.Fatalf("%v, mode %d, of %v: MeanOf %v, the graph %s", x, mode, list[:i+1], thenOk, textGraph(next))
		}
		if next.Full {
			return strings.Join(append(texts, "full"), ";"), ok
		}
		now := slices.DeleteFunc(then, func(o impl.Occ) bool { return o.To <= g.Now || o.To > e.At })
		if !sameOccs(found, now) {
			t.Fatalf("%v, mode %d, of %v: %s, MeanOf %s", x, mode, list[:i+1], textOccs(found), textOccs(now))
		}
		texts = append(texts, textOccs(found))
		g = next
	}
	return strings.Join(texts, ";"), ok
}

// holdGraphCases holds cases against the program and against the model: what is wanted is the text of each step, with ; between.
func holdGraphCases(t *testing.T, cases []meanCase) {
	t.Helper()
	for _, c := range cases {
		for _, mode := range modes {
			if got, ok := holdGraph(t, exOf(t, c.look), mode, evsOf(t, c.events)); got != c.want[mode] || ok == strings.Contains(got, "full") {
				t.Errorf("%s of %s, mode %d: %q, %v, want %q", c.look, c.events, mode, got, ok, c.want[mode])
			}
		}
	}
}

// holdNoGraph asks for the fixed answers where there is no graph to be made, or nothing that can happen.
func holdNoGraph(t *testing.T, name string, x impl.Ex, mode int, list []impl.Ev) {
	t.Helper()
	if got, ok := impl.GraphRun(x, mode, list); ok || len(got) != 0 {
		t.Errorf("%s, mode %d: GraphRun = %s, %v", name, mode, textOccs(got), ok)
	}
}

// holdNoStep asks for nothing and none.
func holdNoStep(t *testing.T, name string, g impl.Graph, e impl.Ev) {
	t.Helper()
	if next, found := holdGraphStep(t, g, e); textGraph(next) != textGraph(impl.Graph{}) || len(found) != 0 {
		t.Errorf("%s: GraphStep = %s, %s", name, textGraph(next), textOccs(found))
	}
}

// kindsAndKids is the nodes of a graph at which nothing waits or is due: of each its Kind, Sym, N and Kids.
func kindsAndKids(g impl.Graph) string {
	text := ""
	for _, n := range g.Nodes {
		text += fmt.Sprintf("%d %d %d %v;", n.Kind, n.Sym, n.N, append([]int{}, n.Kids...))
		n.Kind, n.Sym, n.N, n.Kids = 0, 0, 0, nil
		if textNode(n) != textNode(impl.Node{}) {
			text += "something waits"
		}
	}
	return text
}

// Each part is there once, its parts ahead of it, in order, and the whole is the last.
func TestGraphOf(t *testing.T) {
	for look, want := range map[string]string{
		"a":                     "1 0 0 [];",
		"e":                     "1 4 0 [];",
		"or a b":                "1 0 0 [];1 1 0 [];2 0 0 [0 1];",
		"or b a":                "1 1 0 [];1 0 0 [];2 0 0 [0 1];",
		"or a a":                "1 0 0 [];2 0 0 [0 0];",
		"and c c":               "1 2 0 [];3 0 0 [0 0];",
		"seq d e":               "1 3 0 [];1 4 0 [];4 0 0 [0 1];",
		"not a b c":             "1 0 0 [];1 1 0 [];1 2 0 [];5 0 0 [0 1 2];",
		"not a b a":             "1 0 0 [];1 1 0 [];5 0 0 [0 1 0];",
		"each a a b":            "1 0 0 [];1 1 0 [];6 0 0 [0 0 1];",
		"each a a a":            "1 0 0 [];6 0 0 [0 0 0];",
		"plus 20 a":             "1 0 0 [];7 0 20 [0];",
		"plus 1 plus 1 a":       "1 0 0 [];7 0 1 [0];7 0 1 [1];",
		"or plus 1 a plus 2 a":  "1 0 0 [];7 0 1 [0];7 0 2 [0];2 0 0 [1 2];",
		"or plus 2 a plus 2 a":  "1 0 0 [];7 0 2 [0];2 0 0 [1 1];",
		"or seq a b seq b a":    "1 0 0 [];1 1 0 [];4 0 0 [0 1];4 0 0 [1 0];2 0 0 [2 3];",
		"or seq a b seq a b":    "1 0 0 [];1 1 0 [];4 0 0 [0 1];2 0 0 [2 2];",
		"or seq a b and a b":    "1 0 0 [];1 1 0 [];4 0 0 [0 1];3 0 0 [0 1];2 0 0 [2 3];",
		"seq or b a b":          "1 1 0 [];1 0 0 [];2 0 0 [0 1];4 0 0 [2 0];",
		"seq a or b a":          "1 0 0 [];1 1 0 [];2 0 0 [1 0];4 0 0 [0 2];",
		"not or a b a or a b":   "1 0 0 [];1 1 0 [];2 0 0 [0 1];5 0 0 [2 0 2];",
		"each c seq a b or a b": "1 2 0 [];1 0 0 [];1 1 0 [];4 0 0 [1 2];2 0 0 [1 2];6 0 0 [0 3 4];",
		// The same twice, far apart and at two depths.
		"and seq a b plus 2 seq a b":              "1 0 0 [];1 1 0 [];4 0 0 [0 1];7 0 2 [2];3 0 0 [2 3];",
		"seq plus 3 plus 2 or a b and or a b a":   "1 0 0 [];1 1 0 [];2 0 0 [0 1];7 0 2 [2];7 0 3 [3];3 0 0 [2 0];4 0 0 [4 5];",
		"or or or a a or a a or a a":              "1 0 0 [];2 0 0 [0 0];2 0 0 [1 1];2 0 0 [2 1];",
		"not plus 1 a plus 1 plus 1 a plus 1 a":   "1 0 0 [];7 0 1 [0];7 0 1 [1];5 0 0 [1 2 1];",
		"plus 5 plus 4 plus 3 plus 2 a":           "1 0 0 [];7 0 2 [0];7 0 3 [1];7 0 4 [2];7 0 5 [3];",
		"each not a b c not a b d or b a":         "1 0 0 [];1 1 0 [];1 2 0 [];5 0 0 [0 1 2];1 3 0 [];5 0 0 [0 1 4];2 0 0 [1 0];6 0 0 [3 5 6];",
		"or plus 1 a or plus 2 b or plus 3 c d":   "1 0 0 [];7 0 1 [0];1 1 0 [];7 0 2 [2];1 2 0 [];7 0 3 [4];1 3 0 [];2 0 0 [5 6];2 0 0 [3 7];2 0 0 [1 8];",
		"or or a b plus 1 or c d":                 "1 0 0 [];1 1 0 [];2 0 0 [0 1];1 2 0 [];1 3 0 [];2 0 0 [3 4];7 0 1 [5];2 0 0 [2 6];",
		"or plus 1 or plus 2 e a b":               "1 4 0 [];7 0 2 [0];1 0 0 [];2 0 0 [1 2];7 0 1 [3];1 1 0 [];2 0 0 [4 5];",
		"or not a b c each a b plus 1 plus 1 d":   "1 0 0 [];1 1 0 [];1 2 0 [];5 0 0 [0 1 2];1 3 0 [];7 0 1 [4];7 0 1 [5];6 0 0 [0 1 6];2 0 0 [3 7];",
		"and not a b c each d e plus 1 plus 2 c":  "1 0 0 [];1 1 0 [];1 2 0 [];5 0 0 [0 1 2];1 3 0 [];1 4 0 [];7 0 2 [2];7 0 1 [6];6 0 0 [4 5 7];3 0 0 [3 8];",
		"seq not a b plus 1 c each d e plus 20 c": "1 0 0 [];1 1 0 [];1 2 0 [];7 0 1 [2];5 0 0 [0 1 3];1 3 0 [];1 4 0 [];7 0 20 [2];6 0 0 [5 6 7];4 0 0 [4 8];",
	} {
		for _, mode := range modes {
			x := exOf(t, look)
			g := holdGraphOf(t, x, mode)
			if got := kindsAndKids(g); got != want || g.Mode != mode || g.Seen != 0 || g.Now != 0 || g.Full || !impl.GraphOk(g) {
				t.Errorf("%s, mode %d: %s, want %s", look, mode, textGraph(g), want)
			}
			if impl.GraphMany(x) != strings.Count(want, ";") {
				t.Errorf("GraphMany of %s: %d", look, impl.GraphMany(x))
			}
		}
	}
}

// Modes at their edges, what is not ok, and ExSize parts of which no two are the same.
func TestGraphOfEdges(t *testing.T) {
	for kind := impl.ExSym; kind <= impl.ExPlus; kind++ {
		for mode, want := range map[int]bool{-1: false, 0: true, impl.ModeMax - 1: true, impl.ModeMax: false, math.MinInt: false, math.MaxInt: false} {
			if g := holdGraphOf(t, least(kind), mode); (len(g.Nodes) > 0) != want || impl.GraphOk(g) != want {
				t.Errorf("kind %d, mode %d: %s", kind, mode, textGraph(g))
			}
		}
	}
	for name, x := range wrongExs() {
		for _, mode := range append(slices.Clone(modes), wrongModes...) {
			if g := impl.GraphOf(x, mode); textGraph(g) != textGraph(impl.Graph{}) {
				t.Errorf("%s, mode %d: %s", name, mode, textGraph(g))
			}
		}
		if impl.GraphMany(x) != 0 {
			t.Errorf("%s: GraphMany = %d", name, impl.GraphMany(x))
		}
	}
	most := exOf(t, "each plus 1 a plus 2 or b c plus 3 or d plus 4 e")
	if many, deep := sizeEx(most); many != 12 || deep != 5 {
		t.Fatalf("%d parts, %d deep", many, deep)
	}
	if g := holdGraphOf(t, most, 0); len(g.Nodes) != 12 || impl.GraphMany(most) != 12 || !impl.GraphOk(g) {
		t.Errorf("ExSize parts: %s", textGraph(g))
	}
}

// GraphMany: each part once, whatever else it is part of.
func TestGraphMany(t *testing.T) {
	for look, want := range map[string]int{
		"a": 1, "or a a": 2, "or a b": 3, "plus 1 a": 2, "each a a a": 2, "and seq a b plus 2 seq a b": 5,
		"or or or a a or a a or a a": 4, "or plus 1 a plus 1 a": 3, "or plus 1 a plus 2 a": 4,
		"each plus 1 a plus 2 b not c d plus 3 c": 9,
		"not each a b c each c b a or a d":        8,
	} {
		if got := impl.GraphMany(exOf(t, look)); got != want {
			t.Errorf("%s: %d, want %d", look, got, want)
		}
	}
	for _, list := range allOfSize(3) {
		for i, x := range list {
			holdGraphOf(t, x, i%5)
		}
	}
	r := rand.New(rand.NewSource(23))
	for range 4000 {
		x := someEx(r, 1+r.Intn(6))
		fewer(r, &x, 1+r.Intn(3))
		holdGraphOf(t, x, r.Intn(7)-1)
	}
}

// P7: each of the seven kinds alone, in each mode: what each event brings about.
func TestGraphKinds(t *testing.T) {
	holdGraphCases(t, []meanCase{
		{"a", "", all("")},
		{"a", "a1 b2 a3=5 c4 b6", all("1-1(0);;3-3(2);;")},
		{"e", "a1 b2 e1000=100", all(";;1000-1000(2)")},
		{"or a c", "a1 b2 a3 c4 b6", all("1-1(0);;3-3(2);4-4(3);")},
		{"or c a", "a1 b2 a3 c4 b6", all("1-1(0);;3-3(2);4-4(3);")},
		{"and a b", "a1 a2 b3 b4 b5 a6", [5]string{
			";;1-3(0,2) 2-3(1,2);1-4(0,3) 2-4(1,3);1-5(0,4) 2-5(1,4);3-6(2,5) 4-6(3,5) 5-6(4,5)",
			";;2-3(1,2);2-4(1,3);2-5(1,4);5-6(4,5)",
			";;1-3(0,2);2-4(1,3);;5-6(4,5)",
			";;1-3(0,2) 2-3(1,2);;;4-6(3,5) 5-6(4,5)",
			";;1-3(0,1,2);;;4-6(3,4,5)",
		}},
		{"seq a b", "b1 a2 a3 b5 b9", [5]string{
			";;;2-5(1,3) 3-5(2,3);2-9(1,4) 3-9(2,4)",
			";;;3-5(2,3);3-9(2,4)",
			";;;2-5(1,3);3-9(2,4)",
			";;;2-5(1,3) 3-5(2,3);",
			";;;2-5(1,2,3);",
		}},
		{"not a c b", "a1 a2 c3 a4 a5 b6 b7", [5]string{
			";;;;;4-6(3,5) 5-6(4,5);4-7(3,6) 5-7(4,6)",
			";;;;;5-6(4,5);5-7(4,6)",
			";;;;;4-6(3,5);5-7(4,6)",
			";;;;;4-6(3,5) 5-6(4,5);",
			";;;;;4-6(3,4,5);",
		}},
		{"each a b c", "a1 a2 b3 b4 c5 b6", [5]string{
			";;1-3(0,2) 2-3(1,2);1-4(0,3) 2-4(1,3);;",
			";;2-3(1,2);2-4(1,3);;",
			";;1-3(0,2);1-4(0,3);;",
			";;1-3(0,2) 2-3(1,2);1-4(0,3) 2-4(1,3);;",
			";;1-3(0,1,2);1-4(0,1,3);;",
		}},
		{"plus 2 a", "a1 b2 a3 c5", all(";;1-3(0);3-5(2)")},
	})
}

// P7: kinds within one another, and what is due at, ahead of and behind an event.
func TestGraphDue(t *testing.T) {
	holdGraphCases(t, []meanCase{
		{"plus 3 a", "a1 b3", all(";")},
		{"plus 3 a", "a1 b4", all(";1-4(0)")},
		{"plus 3 a", "a1 b5", all(";1-4(0)")},
		{"plus 3 a", "a1 b3 b5 b6", all(";;1-4(0);")},
		{"plus 20 a", "a980 b1000", all(";980-1000(0)")},
		{"plus 20 a", "a981 b1000", all(";")},
		{"plus 20 a", "a1000", all("")},
		{"plus 20 a", "a1 b2", all(";")},
		// More than one due at one time, in one node and in several, and at more than one time ahead of one event.
		{"plus 2 seq a b", "a1 a2 b3 c4 c9", [5]string{";;;;1-5(0,2) 2-5(1,2)", ";;;;2-5(1,2)", ";;;;1-5(0,2)", ";;;;1-5(0,2) 2-5(1,2)", ";;;;1-5(0,1,2)"}},
		{"or plus 3 a plus 2 b", "a1 b2 c9", all(";;1-4(0) 2-4(1)")},
		{"or plus 3 a plus 2 b", "a1 b2 c4", all(";;1-4(0) 2-4(1)")},
		{"or plus 3 a plus 2 a", "a1 b2 c4", all(";;1-3(0) 1-4(0)")},
		{"or plus 2 a plus 3 a", "a1 b2 c9", all(";;1-3(0) 1-4(0)")},
		{"plus 3 a", "a1 a2 a3 b9", all(";;;1-4(0) 2-5(1) 3-6(2)")},
		{"plus 3 a", "a1 a2 a3 b5 b6", all(";;;1-4(0) 2-5(1);3-6(2)")},
		{"plus 3 a", "a1 a4 a7", all(";1-4(0);4-7(1)")},
		{"seq plus 2 a plus 3 b", "a1 b4 c9", all(";;1-7(0,1)")},
		{"seq plus 2 a plus 3 b", "a1 b3 c9", all(";;")},
		{"seq plus 2 a b", "a1 b3 b4", all(";;1-4(0,2)")},
		{"and a plus 2 a", "a1 c2 c9", all(";;1-3(0)")},
		{"and a plus 2 a", "a1 a3", [5]string{";1-3(0) 1-3(0,1)", ";1-3(0,1)", ";1-3(0)", ";1-3(0) 1-3(0,1)", ";1-3(0,1)"}},
		{"and plus 2 a plus 4 b", "a1 b2 c9", all(";;1-6(0,1)")},
		{"not a plus 1 b c", "a1 b2 c9", all(";;")},
		{"not a plus 1 b c", "a1 b2 c3", all(";;1-3(0,2)")},
		{"not a b plus 4 a", "a1 d4 a5 c11", all(";;;1-9(0,2)")},
		{"each a plus 2 b c", "a1 b2 c9", all(";;1-4(0,1)")},
		{"each a b plus 1 c", "a1 c2 b3 b4", all(";;1-3(0,2);")},
		// A plus within a plus: both may be due ahead of one event, and at one time as something else.
		{"plus 1 plus 2 a", "a1 b2 b3 b4 b5", all(";;;1-4(0);")},
		{"plus 2 plus 1 a", "a1 b9", all(";1-4(0)")},
		{"plus 2 plus 2 a", "a1 b5", all(";1-5(0)")},
		{"plus 2 plus 2 a", "a1 b4 b6", all(";;1-5(0)")},
		{"plus 2 plus 2 a", "a1 a3 a5 a7", all(";;1-5(0);3-7(1)")},
		{"or plus 2 a plus 1 plus 1 a", "a1 b3", all(";1-3(0)")},
		{"or plus 3 a plus 1 plus 1 a", "a1 b9", all(";1-3(0) 1-4(0)")},
		{"plus 20 plus 20 plus 20 plus 20 a", "a1 b80 b81", all(";;1-81(0)")},
		{"plus 20 plus 20 plus 20 plus 20 a", "a1 b1000", all(";1-81(0)")},
		{"seq a plus 1 plus 1 b", "a1 b2 c9", all(";;1-4(0,1)")},
	})
}

// P7: parts that are the same, as kids of one part and far apart, are found as if each were looked for by itself.
func TestGraphTwice(t *testing.T) {
	holdGraphCases(t, []meanCase{
		{"or a a", "a1 b2 a3", all("1-1(0);;3-3(2)")},
		{"and a a", "a1 a2", [5]string{"1-1(0);1-2(0,1) 2-2(1)", "1-1(0);1-2(0,1) 2-2(1)", "1-1(0);2-2(1)", "1-1(0);2-2(1)", "1-1(0);2-2(1)"}},
		{"seq a a", "a1 a2 a3", [5]string{";1-2(0,1);1-3(0,2) 2-3(1,2)", ";1-2(0,1);2-3(1,2)", ";1-2(0,1);2-3(1,2)", ";1-2(0,1);2-3(1,2)", ";1-2(0,1);2-3(1,2)"}},
		{"not a a a", "a1 a2 a3", all(";1-2(0,1);2-3(1,2)")},
		{"each a a a", "a1 a2 a3", all(";1-2(0,1);2-3(1,2)")},
		{"each a a b", "a1 a2 b3 a4", [5]string{";1-2(0,1);;", ";1-2(0,1);;", ";1-2(0,1);;", ";1-2(0,1);;", ";1-2(0,1);;"}},
		{"and seq a b plus 2 seq a b", "a1 b2 c3 c9", all(";;;1-4(0,1)")},
		{"seq seq a b seq a b", "a1 b2 a3 b4", all(";;;1-4(0,1,2,3)")},
		{"or seq a b seq a b", "a1 b2", all(";1-2(0,1)")},
		{"and seq a b seq a b", "a1 b2", all(";1-2(0,1)")},
		{"or plus 1 a plus 1 a", "a1 b9", all(";1-2(0)")},
		{"or a plus 4 a", "a1 a5 b9", all("1-1(0);1-5(0) 5-5(1);5-9(1)")},
		{"or plus 1 seq a b and a seq a b", "a1 b2 c9", all(";1-2(0,1);1-3(0,1)")},
	})
}

// P7: found just OccMax times, and once more: as the whole and as a part, with an event and without one.
func TestGraphFull(t *testing.T) {
	spaced := ""
	for i := range 21 {
		spaced += fmt.Sprintf("a%d ", 1+10*i)
	}
	for _, c := range []struct {
		look, events string
		mode         int
		full         int // at which event it is too much, or -1
	}{
		{"seq a b", "a1 a2 a3 a4 b5 b6 b7 b8 b9 b10 b11 b12 b13 b14", 0, -1},
		{"seq a b", "a1 a2 a3 a4 b5 b6 b7 b8 b9 b10 b11 b12 b13 b14 c15 a16 b17", 0, 16},
		{"seq a b", "a1 a2 a3 a4 b5 b6 b7 b8 b9 b10 b11 b12 b13 b14 c15 a16 b17", 1, -1},
		{"seq d seq a b", "a1 a2 a3 a4 b5 b6 b7 b8 b9 b10 b11 b12 b13 b14 c15 a16 b17 e18", 0, 16},
		{"seq seq d d seq a b", "a1 a2 a3 a4 b5 b6 b7 b8 b9 b10 b11 b12 b13 b14 c15 a16", 0, -1},
		{"and a b", "a1 a2 a3 a4 b5 b6 b7 b8 b9 b10 b11 b12 b13 b14 c15 a16", 0, 15},
		{"not a c b", "a1 a2 a3 a4 b5 b6 b7 b8 b9 b10 b11 b12 b13 b14 a15 b16", 0, 15},
		{"not a c b", "a1 a2 a3 a4 b5 b6 b7 b8 b9 b10 b11 b12 b13 b14 a15 c16", 0, -1},
		{"each a b c", "a1 a2 a3 a4 b5 b6 b7 b8 b9 b10 b11 b12 b13 b14", 3, -1},
		{"each a b c", "a1 a2 a3 a4 b5 b6 b7 b8 b9 b10 b11 b12 b13 b14 a15 b16", 3, 15},
		{"plus 1 seq a b", "a1 a2 a3 a4 b5 b6 b7 b8 b9 b10 b11 b12 b13 b14 c15 c16", 0, -1},
		// The 41st is due at 203, without an event, with one, or behind the last one.
		{"or plus 2 a plus 3 a", spaced + "b202", 0, -1},
		{"or plus 2 a plus 3 a", spaced + "b203", 0, 21},
		{"or plus 2 a plus 3 a", spaced + "b204", 0, 21},
		{"or plus 2 a plus 3 a", spaced + "b202 b1000", 4, 22},
		{"or plus 2 a plus 3 a", spaced + "b202 b203", 2, 22},
		{"seq or plus 2 a plus 3 a d", spaced + "b202", 0, -1},
		{"seq or plus 2 a plus 3 a d", spaced + "b202 b300", 0, 22},
		{"and d or plus 2 a plus 3 a", spaced + "b202 d203", 3, 22},
		{"plus 20 or plus 2 a plus 3 a", spaced + "b203", 0, 21},
		{"plus 20 or plus 2 a plus 3 a", spaced + "b202", 0, -1},
		{"not a or plus 2 a plus 3 a b", spaced + "c202 c300", 1, 22},
		{"each a or plus 2 a plus 3 a b", spaced + "c202 c300", 1, 22},
	} {
		x, list := exOf(t, c.look), evsOf(t, c.events)
		got, ok := holdGraph(t, x, c.mode, list)
		if full := strings.Contains(got, "full"); full != (c.full >= 0) || ok == full || full && strings.Count(got, ";") != c.full {
			t.Errorf("%s of %s, mode %d: %s", c.look, c.events, c.mode, got)
		}
		g := impl.GraphOf(x, c.mode)
		for i, e := range list {
			next, found := impl.GraphStep(g, e)
			if i != c.full {
				g = next
				continue
			}
			// It tells the mode, how many came, and when the last did; nothing else, and nothing happens to it any more.
			want := fmt.Sprintf("mode %d seen %d now %d full true", c.mode, i+1, e.At)
			if textGraph(next) != want || len(found) != 0 || impl.GraphOk(next) {
				t.Errorf("%s of %s, mode %d: %s, %s", c.look, c.events, c.mode, textGraph(next), textOccs(found))
			}
			for _, at := range []int{e.At - 1, e.At, e.At + 1, 1000} {
				holdNoStep(t, c.look+" is full", next, impl.Ev{At: at})
			}
			break
		}
	}
}

// A graph that is Full at the beginning is one, but nothing happens to it.
func TestGraphFullAtTheBeginning(t *testing.T) {
	for kind := impl.ExSym; kind <= impl.ExPlus; kind++ {
		for _, mode := range modes {
			g := impl.GraphOf(least(kind), mode)
			g.Full = true
			if !impl.GraphOk(g) {
				t.Errorf("kind %d: no graph", kind)
			}
			for sym := range 5 {
				holdNoStep(t, "full", g, impl.Ev{Sym: sym, At: 7})
			}
		}
	}
}

// What was found OccMax times is not too much as long as nothing more is found of it.
func TestGraphMostOften(t *testing.T) {
	for _, many := range []int{38, 39, 40} {
		for place := range 3 {
			g := impl.GraphOf(exOf(t, "or a plus 2 a"), 0)
			g.Nodes[place].Many = many
			for _, letters := range []string{"bcd", "bab", "abb", "abc", "aab", "aaa"} {
				g, full := g, false
				for _, e := range manyEvents(letters) {
					if full {
						break
					}
					g, _ = holdGraphStep(t, g, e)
					full = g.Full
				}
				times := strings.Count(letters, "a")
				later := strings.Count(letters[:1], "a")
				if want := many+[]int{times, later, times + later}[place] > 40; full != want {
					t.Errorf("Many %d of node %d, %s: full %v", many, place, letters, full)
				}
			}
		}
	}
	// Found twice at one time: one too many, with an event and without one.
	for at := 6; at <= 9; at++ {
		g := impl.GraphOf(exOf(t, "plus 5 a"), 0)
		g.Now, g.Nodes[1].Many, g.Nodes[1].Due = 6, 39, readOccs(t, "1-8(0) 2-8(1)")
		next, found := holdGraphStep(t, g, impl.Ev{At: at})
		if next.Full != (at > 7) || len(found) != 0 || next.Full && (len(next.Nodes) != 0 || next.Seen != 1 || next.Now != at) {
			t.Errorf("at %d: %s, %s", at, textGraph(next), textOccs(found))
		}
	}
}

// An event whose At is Now, one less and one more; and events that are not ok.
func TestGraphStepEvents(t *testing.T) {
	for _, mode := range modes {
		g := impl.GraphOf(exOf(t, "or a plus 3 a"), mode)
		for _, e := range evsOf(t, "a1 b4 a7") {
			g, _ = holdGraphStep(t, g, e)
		}
		for _, at := range []int{math.MinInt, -7, -1, 0, 1, 4, 6, 7, 1001, 1007, math.MaxInt} {
			for sym := range 5 {
				holdNoStep(t, fmt.Sprint("at ", at), g, impl.Ev{Sym: sym, At: at})
			}
		}
		for _, e := range []impl.Ev{{Sym: -1, At: 8}, {Sym: 5, At: 8}, {Sym: math.MaxInt, At: 8}, {At: 8, Val: -1}, {At: 8, Val: 101}, {At: 8, Val: math.MinInt}, {}} {
			holdNoStep(t, fmt.Sprint(e), g, e)
		}
		for at, want := range map[int]string{8: "8-8(3)", 9: "9-9(3)", 10: "7-10(2) 10-10(3)", 11: "7-10(2) 11-11(3)", 1000: "7-10(2) 1000-1000(3)"} {
			for _, val := range []int{0, 1, 100} {
				next, found := holdGraphStep(t, g, impl.Ev{At: at, Val: val})
				if textOccs(found) != want || next.Now != at || next.Seen != 4 {
					t.Errorf("at %d: %s, %s", at, textGraph(next), textOccs(found))
				}
			}
		}
		// At the beginning Now is 0, and at the last time nothing more can happen.
		begin := impl.GraphOf(leaf(0), mode)
		holdNoStep(t, "at 0", begin, impl.Ev{At: 0})
		last, found := holdGraphStep(t, begin, impl.Ev{At: 1000})
		if textOccs(found) != "1000-1000(0)" || !impl.GraphOk(last) {
			t.Errorf("at 1000: %s, %s", textGraph(last), textOccs(found))
		}
		for _, at := range []int{999, 1000, 1001} {
			holdNoStep(t, "behind the last time", last, impl.Ev{At: at})
		}
	}
}

// Seen is the place of the event; when EvMax were seen, nothing more happens.
func TestGraphSeen(t *testing.T) {
	for seen := -1; seen <= 26; seen++ {
		g := impl.GraphOf(exOf(t, "or a plus 1 a"), 2)
		g.Seen, g.Now = seen, 50
		if ok := seen >= 0 && seen <= impl.EvMax; impl.GraphOk(g) != ok {
			t.Errorf("Seen %d: GraphOk = %v", seen, !ok)
		}
		if seen < 0 || seen >= impl.EvMax {
			holdNoStep(t, fmt.Sprint("Seen ", seen), g, impl.Ev{At: 60})
			continue
		}
		next, found := holdGraphStep(t, g, impl.Ev{At: 60})
		if next.Seen != seen+1 || next.Now != 60 || textOccs(found) != fmt.Sprintf("60-60(%d)", seen) || textOccs(next.Nodes[1].Due) != fmt.Sprintf("60-61(%d)", seen) {
			t.Errorf("Seen %d: %s, %s", seen, textGraph(next), textOccs(found))
		}
		if seen == impl.EvMax-1 {
			holdNoStep(t, "all were seen", next, impl.Ev{At: 61})
		}
	}
	for _, mode := range modes {
		for _, look := range []string{"a", "or a plus 1 b", "plus 2 e", "seq e a"} {
			if _, ok := holdGraph(t, exOf(t, look), mode, full()); !ok {
				t.Errorf("EvMax events, %s, mode %d", look, mode)
			}
		}
	}
}

// someWaits is a graph that is ok, at which something waits and is due.
func someWaits(t *testing.T) impl.Graph {
	t.Helper()
	g := impl.GraphOf(exOf(t, "each a plus 2 b seq c d"), 2)
	g.Seen, g.Now = 4, 10
	for place, list := range map[int]*[]impl.Occ{2: &g.Nodes[2].Due, 5: &g.Nodes[5].Pair.Left, 6: &g.Nodes[6].Span.Left, 7: &g.Nodes[6].Span.Mid} {
		*list = readOccs(t, []string{2: "9-11(1) 8-12(3)", 5: "2-2(0)", 6: "1-1(0) 3-3(2)", 7: "1-5(0,3)"}[place])
	}
	for place := range g.Nodes {
		g.Nodes[place].Many = place
	}
	return g
}

// graphChange is one change of a graph that is ok, and whether it is ok then.
type graphChange struct {
	name   string
	ok     bool
	change func(g *impl.Graph)
}

// graphChanges is each condition of GraphOk, broken alone, at its bounds and past them; nodes are those of someWaits: a, b, plus, c, d, seq, each.
func graphChanges() []graphChange {
	var list []graphChange
	add := func(ok bool, change func(g *impl.Graph), name ...any) {
		list = append(list, graphChange{fmt.Sprint(name...), ok, change})
	}
	for n, ok := range map[int]bool{-1: false, 0: true, 4: true, 5: false, math.MinInt: false, math.MaxInt: false} {
		add(ok, func(g *impl.Graph) { g.Mode = n }, "Mode ", n)
	}
	for n, ok := range map[int]bool{-1: false, 0: true, 24: true, 25: false, math.MinInt: false, math.MaxInt: false} {
		add(ok, func(g *impl.Graph) { g.Seen = n }, "Seen ", n)
	}
	for n, ok := range map[int]bool{-1: false, 0: true, 10: true, 11: false, 1000: false, 1001: false, math.MinInt: false, math.MaxInt: false} {
		add(ok, func(g *impl.Graph) { g.Now = n }, "Now ", n)
		undue := ok || n == 11 || n == 1000
		add(undue, func(g *impl.Graph) { g.Now, g.Nodes[2].Due = n, nil }, "nothing due, Now ", n)
		add(undue, func(g *impl.Graph) { g.Now, g.Nodes[2].Due = n, []impl.Occ{occ(1, 1001, 0)} }, "due far behind, Now ", n)
	}
	add(true, func(g *impl.Graph) { g.Full = true }, "Full")
	for many, ok := range map[int]bool{0: false, 1: true, 2: true, 6: true} {
		add(ok, func(g *impl.Graph) { g.Nodes = g.Nodes[:many] }, "only so many nodes: ", many)
	}
	add(false, func(g *impl.Graph) { g.Nodes = nil }, "nil nodes")
	add(false, func(g *impl.Graph) { g.Nodes, g.Full = nil, true }, "nil nodes, Full")
	for many, ok := range map[int]bool{11: true, 12: true, 13: false, 500: false} {
		add(ok, func(g *impl.Graph) {
			for len(g.Nodes) < many {
				g.Nodes = append(g.Nodes, impl.Node{Kind: impl.ExSym})
			}
		}, "so many nodes: ", many)
	}
	for place, kind := range []int{1, 1, 7, 1, 1, 4, 6} {
		for n := -1; n <= 9; n++ {
			ok := n > 0 && n < 8 && exKids[n] == exKids[kind] && (n == 7) == (kind == 7)
			add(ok, func(g *impl.Graph) { g.Nodes[place].Kind = n }, "Kind ", n, " at ", place)
		}
		for n, ok := range map[int]bool{-1: false, 0: true, 4: true, 5: false, math.MinInt: false, math.MaxInt: false} {
			add(ok, func(g *impl.Graph) { g.Nodes[place].Sym = n }, "Sym ", n, " at ", place)
		}
		for n, ok := range map[int]bool{-1: false, 0: kind != 7, 1: kind == 7, 20: kind == 7, 21: false, math.MinInt: false, math.MaxInt: false} {
			add(ok, func(g *impl.Graph) { g.Nodes[place].N = n }, "N ", n, " at ", place)
		}
		for n, ok := range map[int]bool{-1: false, 0: true, 40: true, 41: false, math.MinInt: false, math.MaxInt: false} {
			add(ok, func(g *impl.Graph) { g.Nodes[place].Many = n }, "Many ", n, " at ", place)
		}
		for i := range exKids[kind] {
			for n := -2; n <= 8; n++ {
				add(n >= 0 && n < place, func(g *impl.Graph) { g.Nodes[place].Kids[i] = n }, "kid ", i, " is ", n, " at ", place)
			}
			for _, n := range []int{math.MinInt, math.MaxInt} {
				add(false, func(g *impl.Graph) { g.Nodes[place].Kids[i] = n }, "kid ", i, " is ", n, " at ", place)
			}
			add(false, func(g *impl.Graph) { g.Nodes[place].Kids = slices.Delete(g.Nodes[place].Kids, i, i+1) }, "kid ", i, " is not there at ", place)
		}
		add(false, func(g *impl.Graph) { g.Nodes[place].Kids = append(g.Nodes[place].Kids, 0) }, "a kid too many at ", place)
	}
	return append(list, graphListChanges()...)
}

// graphListChanges is what is wrong and right of what waits and is due, in each node.
func graphListChanges() []graphChange {
	var list []graphChange
	wrong := wrongLists()
	for place := range 7 {
		for name, listOf := range map[string]func(n *impl.Node) *[]impl.Occ{
			"Pair.Left":  func(n *impl.Node) *[]impl.Occ { return &n.Pair.Left },
			"Pair.Right": func(n *impl.Node) *[]impl.Occ { return &n.Pair.Right },
			"Span.Left":  func(n *impl.Node) *[]impl.Occ { return &n.Span.Left },
			"Span.Mid":   func(n *impl.Node) *[]impl.Occ { return &n.Span.Mid },
			"Due":        func(n *impl.Node) *[]impl.Occ { return &n.Due },
		} {
			due := name == "Due"
			add := func(ok bool, what string, o []impl.Occ) {
				list = append(list, graphChange{fmt.Sprint(what, " in ", name, " at ", place), ok, func(g *impl.Graph) { *listOf(&g.Nodes[place]) = o }})
			}
			for i, o := range wrong {
				add(false, fmt.Sprint("wrong ", i), o)
			}
			add(true, "nil", nil)
			add(true, "an empty list", []impl.Occ{})
			add(!due, "OccMax, from 1 on", inARow(1, 40))
			add(!due || place == 2, "OccMax, from 11 on", inARow(11, 40))
			add(false, "one more, from 11 on", inARow(11, 41))
			add(!due, "To is Now", []impl.Occ{occ(10, 10, 0)})
			add(!due || place == 2, "To is one more", []impl.Occ{occ(1, 11, 0)})
			add(!due, "the first To is Now", []impl.Occ{occ(10, 10, 0), occ(11, 11, 0)})
			add(!due || place == 2, "the last To", []impl.Occ{occ(1, 2000, 23)})
			add(false, "past the last To", []impl.Occ{occ(1, 2001, 23)})
		}
	}
	return list
}

// GraphOk, with each of its conditions broken alone, at its bounds and past them; and nothing happens to what is no graph.
func TestGraphOk(t *testing.T) {
	base := someWaits(t)
	if !impl.GraphOk(base) || impl.GraphOk(impl.Graph{}) || impl.GraphOk(impl.Graph{Full: true}) || impl.GraphOk(impl.Graph{Nodes: []impl.Node{}}) {
		t.Fatal("GraphOk")
	}
	right, wrong := 0, 0
	for _, c := range graphChanges() {
		g := copiedGraph(base)
		c.change(&g)
		if got := impl.GraphOk(g); got != c.ok || okGraph(g) != c.ok {
			t.Errorf("%s: GraphOk = %v, the model %v", c.name, got, okGraph(g))
		}
		if c.ok {
			right++
			holdGraphStep(t, g, impl.Ev{Sym: 3, At: 14})
			continue
		}
		wrong++
		for sym := range 5 {
			holdNoStep(t, c.name, g, impl.Ev{Sym: sym, At: 14})
		}
	}
	if right < 100 || wrong < 1000 {
		t.Errorf("%d are ok, %d are not", right, wrong)
	}
}

// GraphSame of graphs that differ in one part alone, ok or not.
func TestGraphSame(t *testing.T) {
	base := someWaits(t)
	var graphs []impl.Graph
	var texts []string
	add := func(change func(g *impl.Graph)) {
		g := copiedGraph(base)
		change(&g)
		graphs, texts = append(graphs, g), append(texts, textGraph(g))
	}
	add(func(*impl.Graph) {})
	add(func(g *impl.Graph) { *g = impl.Graph{} })
	add(func(g *impl.Graph) { *g = impl.Graph{Nodes: []impl.Node{}} })
	add(func(g *impl.Graph) { *g = impl.Graph{Nodes: []impl.Node{{}}} })
	add(func(g *impl.Graph) { *g = impl.Graph{Full: true} })
	add(func(g *impl.Graph) { g.Nodes[0], g.Nodes[1] = g.Nodes[1], g.Nodes[0] })
	add(func(g *impl.Graph) { g.Nodes = append(g.Nodes, impl.Node{}) })
	changes := graphChanges()
	r := rand.New(rand.NewSource(24))
	r.Shuffle(len(changes), func(i, j int) { changes[i], changes[j] = changes[j], changes[i] })
	for i, c := range changes {
		// Of the lists, of which there are many, some will do.
		if i < 300 || !strings.Contains(c.name, "wrong") {
			add(c.change)
		}
	}
	// Nil and empty are the same, in each list.
	for _, kids := range [][]int{nil, {}} {
		for _, list := range [][]impl.Occ{nil, {}} {
			add(func(g *impl.Graph) {
				n := &g.Nodes[0]
				n.Kids, n.Pair, n.Span, n.Due = kids, impl.Pair{Left: list, Right: list}, impl.Span{Left: list, Mid: list}, list
			})
		}
	}
	same, other := 0, 0
	for i, a := range graphs {
		if !impl.GraphSame(a, copiedGraph(a)) {
			t.Fatalf("%s is not itself", texts[i])
		}
		for j, b := range graphs {
			want := texts[i] == texts[j]
			if got := impl.GraphSame(a, b); got != want {
				t.Fatalf("GraphSame of %s and %s: %v", texts[i], texts[j], got)
			}
			if want {
				same++
			} else {
				other++
			}
		}
	}
	if same == len(graphs) || other < 10000 {
		t.Errorf("%d are the same, %d are not", same, other)
	}
}

// Wrong inputs where there is no graph to be made, or what happens is not ok: none, and false.
func TestGraphWrong(t *testing.T) {
	right := evsOf(t, "a1 b2 c3 a4 b5")
	for name, x := range wrongExs() {
		for _, mode := range append(slices.Clone(modes), wrongModes...) {
			holdNoGraph(t, name, x, mode, right)
			holdNoGraph(t, name+", no events", x, mode, nil)
			holdNoGraph(t, name+", wrong events", x, mode, []impl.Ev{{}})
			holdNoStep(t, name, impl.GraphOf(x, mode), right[0])
		}
	}
	for kind := impl.ExSym; kind <= impl.ExPlus; kind++ {
		x := least(kind)
		for _, mode := range wrongModes {
			holdNoGraph(t, exWord[kind], x, mode, right)
			holdNoGraph(t, exWord[kind]+", no events", x, mode, nil)
			holdNoStep(t, exWord[kind], impl.GraphOf(x, mode), right[0])
		}
		for name, list := range wrongEvs(t) {
			for _, mode := range append(slices.Clone(modes), wrongModes...) {
				holdNoGraph(t, exWord[kind]+", "+name, x, mode, list)
				holdNoGraph(t, "a letter that is not there, "+name, leaf(3), mode, list)
			}
		}
		for _, mode := range modes {
			for _, list := range [][]impl.Ev{nil, {}} {
				if got, ok := impl.GraphRun(x, mode, list); !ok || len(got) != 0 {
					t.Errorf("kind %d, mode %d, of no events: %v, %v", kind, mode, got, ok)
				}
			}
		}
	}
}

// What waits, is in the middle or is due may be more than OccMax within a step, and is all there then.
func TestGraphMoreWaits(t *testing.T) {
	graph := func(look string, mode int, change func(n []impl.Node)) impl.Graph {
		g := impl.GraphOf(exOf(t, look), mode)
		g.Now, g.Seen = 100, 20
		change(g.Nodes)
		return g
	}
	due := []impl.Occ{occ(50, 101, 5)}
	// Each time one waits as the 41st from 101 on, at which nothing happens; the event at 103 is paired with the last that waits.
	for look, c := range map[string]struct {
		change func(n []impl.Node)
		waits  func(n []impl.Node) []impl.Occ
		found  string
	}{
		"seq plus 1 a b": {
			func(n []impl.Node) { n[1].Due, n[3].Pair.Left = due, inARow(1, 40) },
			func(n []impl.Node) []impl.Occ { return n[3].Pair.Left }, "50-103(5,20)",
		},
		"not plus 1 a c b": {
			func(n []impl.Node) { n[1].Due, n[4].Span.Left = due, inARow(1, 40) },
			func(n []impl.Node) []impl.Occ { return n[4].Span.Left }, "50-103(5,20)",
		},
		"each plus 1 a b c": {
			func(n []impl.Node) { n[1].Due, n[4].Span.Left = due, inARow(1, 40) },
			func(n []impl.Node) []impl.Occ { return n[4].Span.Left }, "50-103(5,20)",
		},
		"not a plus 1 c b": {
			func(n []impl.Node) { n[2].Due, n[4].Span.Left, n[4].Span.Mid = due, inARow(52, 1), inARow(1, 40) },
			func(n []impl.Node) []impl.Occ { return n[4].Span.Mid }, "52-103(0,20)",
		},
		"each a b plus 1 c": {
			func(n []impl.Node) { n[3].Due, n[4].Span.Left, n[4].Span.Mid = due, inARow(52, 1), inARow(1, 40) },
			func(n []impl.Node) []impl.Occ { return n[4].Span.Mid }, "52-103(0,20)",
		},
	} {
		next, found := holdGraphStep(t, graph(look, 1, c.change), impl.Ev{Sym: 1, At: 103})
		if textOccs(found) != c.found || len(c.waits(next.Nodes)) != 41 || next.Full || impl.GraphOk(next) {
			t.Errorf("%s: %s, %s", look, textGraph(next), textOccs(found))
		}
		holdNoStep(t, look, next, impl.Ev{At: 104})
	}
	// 41 that wait are too much to be paired each, and are all in one.
	more := func(n []impl.Node) { n[1].Due, n[3].Pair.Left = due, inARow(1, 40) }
	if next, found := holdGraphStep(t, graph("seq plus 1 a b", 0, more), impl.Ev{Sym: 1, At: 103}); !next.Full || len(found) != 0 {
		t.Errorf("41 are found: %s, %s", textGraph(next), textOccs(found))
	}
	if next, found := holdGraphStep(t, graph("seq plus 1 a b", 4, more), impl.Ev{Sym: 1, At: 103}); len(found) != 1 || len(found[0].Ids) != 24 || !impl.GraphOk(next) {
		t.Errorf("41 in one: %s, %s", textGraph(next), textOccs(found))
	}
	if next, found := holdGraphStep(t, graph("seq plus 1 a b", 2, more), impl.Ev{Sym: 1, At: 103}); textOccs(found) != "1-103(0,20)" || len(next.Nodes[3].Pair.Left) != 40 || !impl.GraphOk(next) {
		t.Errorf("the first of 41: %s, %s", textGraph(next), textOccs(found))
	}
	both := func(n []impl.Node) { n[1].Due, n[3].Pair.Left = due, inARow(1, 40) }
	if next, found := holdGraphStep(t, graph("and plus 1 a b", 0, both), impl.Ev{Sym: 4, At: 103}); len(found) != 0 || len(next.Nodes[3].Pair.Left) != 41 || impl.GraphOk(next) {
		t.Errorf("41 wait for both: %s, %s", textGraph(next), textOccs(found))
	}
	if next, found := holdGraphStep(t, graph("and plus 1 a b", 3, both), impl.Ev{Sym: 1, At: 103}); !next.Full || len(found) != 0 {
		t.Errorf("41 are found as both: %s, %s", textGraph(next), textOccs(found))
	}
	if next, found := holdGraphStep(t, graph("and plus 1 a b", 4, both), impl.Ev{Sym: 1, At: 103}); len(found) != 1 || len(found[0].Ids) != 24 || !impl.GraphOk(next) {
		t.Errorf("41 and another one in one: %s, %s", textGraph(next), textOccs(found))
	}
	// 40 are due, and one more comes.
	many := func(n []impl.Node) { n[1].Due = inARow(130, 40) }
	for at, want := range map[int]int{101: 41, 129: 41, 130: 40, 131: 39, 169: 1} {
		next, found := holdGraphStep(t, graph("plus 20 a", 0, many), impl.Ev{At: at})
		if len(next.Nodes[1].Due) != want || len(found) != 41-want || impl.GraphOk(next) != (want < 41) {
			t.Errorf("at %d: %s, %s", at, textGraph(next), textOccs(found))
		}
	}
}

// someGraph is a graph that is ok, made by a source with a fixed start: any nodes at all, at which anything waits and is due, whether it could come so or not.
func someGraph(r *rand.Rand) impl.Graph {
	g := impl.Graph{Mode: r.Intn(5), Seen: r.Intn(24), Now: r.Intn(12)}
	if r.Intn(2) == 0 {
		g.Nodes = graphModelOf(someLook(r), g.Mode).Nodes
	} else {
		for place := range 1 + r.Intn(12) {
			n := impl.Node{Kind: 1 + r.Intn(7), Sym: r.Intn(3)}
			if place == 0 {
				n.Kind = impl.ExSym
			}
			if n.Kind == impl.ExPlus {
				n.N = 1 + r.Intn(4)
			}
			for range exKids[n.Kind] {
				n.Kids = append(n.Kids, r.Intn(place))
			}
			g.Nodes = append(g.Nodes, n)
		}
	}
	list := func() []impl.Occ {
		if r.Intn(60) == 0 {
			return inARow(1+r.Intn(20), 38+r.Intn(3))
		}
		return someOccs(r, []int{0, 2, 5}[r.Intn(3)], 0)
	}
	for place := range g.Nodes {
		n := &g.Nodes[place]
		n.Pair = impl.Pair{Left: list(), Right: list()}
		n.Span = impl.Span{Left: list(), Mid: list()}
		switch r.Intn(12) {
		case 0:
			n.Many = 36 + r.Intn(5)
		case 1:
			n.Many = r.Intn(20)
		}
		if n.Kind == impl.ExPlus {
			for _, o := range list() {
				n.Due = append(n.Due, occ(o.From, o.To+g.Now, o.Ids...))
			}
		}
	}
	return g
}

// Whatever graph is handed in, a step does what the document says of each node in its turn.
func TestGraphSomeSteps(t *testing.T) {
	r := rand.New(rand.NewSource(25))
	full, found, refused, steps := 0, 0, 0, 0
	for range 6000 {
		g := someGraph(r)
		if !okGraph(g) {
			t.Fatalf("made a wrong graph: %s", textGraph(g))
		}
		for range 4 {
			next, list := holdGraphStep(t, g, impl.Ev{Sym: r.Intn(3), At: g.Now + 1 + r.Intn(6), Val: r.Intn(3)})
			steps++
			found += len(list)
			if next.Full {
				full++
				break
			}
			if !impl.GraphOk(next) {
				refused++
				break
			}
			g = next
		}
	}
	if full < 500 || found < 5000 || refused < 100 || steps < 10000 {
		t.Errorf("%d steps, %d full, %d found, %d refused", steps, full, found, refused)
	}
}

// P7: all that is small, of all that may happen in a few time units, in each mode.
func TestGraphAllThatIsSmall(t *testing.T) {
	for _, list := range smallEvs(4) {
		for _, x := range smallExs() {
			for _, mode := range modes {
				if _, ok := holdGraph(t, x, mode, list); !ok {
					t.Fatalf("%s, mode %d, of %v is too much", textEx(x), mode, list)
				}
			}
		}
	}
}

// P7: whatever is looked for, whatever happened, in each mode, and now and then in none.
func TestGraphSome(t *testing.T) {
	r := rand.New(rand.NewSource(26))
	full, found, twice := 0, 0, 0
	kinds := map[string]int{}
	for range 6000 {
		x, list := someLook(r), someHappened(r)
		mode := r.Intn(5)
		if r.Intn(50) == 0 {
			mode = wrongModes[r.Intn(len(wrongModes))]
		}
		if r.Intn(50) == 0 {
			list = append(list, impl.Ev{Sym: r.Intn(6), At: r.Intn(30)})
		}
		text, ok := holdGraph(t, x, mode, list)
		if strings.Contains(text, "full") {
			full++
		}
		if ok && strings.Contains(text, "(") {
			found++
			kinds[fmt.Sprint(exWord[x.Kind], mode)]++
		}
		if many, _ := sizeEx(x); many > impl.GraphMany(x) {
			twice++
		}
	}
	if full < 50 || found < 2000 || twice < 2000 || len(kinds) != 7*5 {
		t.Errorf("%d full, %d find some, %d have the same part twice, %v", full, found, twice, kinds)
	}
}

// P7: each kind within each kind, at each place, in each mode.
func TestGraphTowers(t *testing.T) {
	r := rand.New(rand.NewSource(27))
	for _, tower := range slices.Concat(towers(1), towers(2)) {
		x := copied(tower)
		fewer(r, &x, 3)
		for _, mode := range modes {
			for range 3 {
				holdGraph(t, x, mode, someHappened(r))
			}
		}
	}
}

// P7: what is found as one event after the other happens is the same, whatever happens later.
func TestGraphWhateverComes(t *testing.T) {
	r := rand.New(rand.NewSource(28))
	for range 1500 {
		x, list, mode := someLook(r), someHappened(r), r.Intn(5)
		g := impl.GraphOf(x, mode)
		for _, e := range list {
			before := textGraph(g)
			for range 2 {
				impl.GraphStep(g, impl.Ev{Sym: r.Intn(5), At: min(g.Now+1+r.Intn(30), 1000)})
			}
			if textGraph(g) != before {
				t.Fatalf("%s is changed by a step: %s", before, textGraph(g))
			}
			next, _ := holdGraphStep(t, g, e)
			if next.Full {
				break
			}
			g = next
		}
	}
}

// Nothing is kept between two calls: other graphs run in turn, and find what they found at first.
func TestGraphKeepsNothing(t *testing.T) {
	x := exOf(t, "or seq a b plus 2 seq a b")
	lists := [][]impl.Ev{evsOf(t, "a1 a2 b3 b5"), evsOf(t, "b1 a2 a3 b4 b7"), nil, evsOf(t, "a1 b2 a3 b4 c6"), {{}}, manyEvents("aaaabbbbbbbbbab")}
	var first []string
	for turn := range 10 {
		var texts []string
		for _, list := range lists {
			for _, mode := range append(slices.Clone(modes), 5) {
				text, _ := holdGraph(t, x, mode, list)
				texts = append(texts, text)
			}
		}
		if turn == 0 {
			first = texts
		}
		if !slices.Equal(texts, first) {
			t.Fatalf("turn %d: %v, at first %v", turn, texts, first)
		}
	}
}

// memory is a list, spare room included: what it holds by itself, and how it is overwritten.
type memory struct {
	name  string
	text  func() string
	spoil func()
}

// idMemory is the memory of a list of numbers.
func idMemory(name string, ids []int) memory {
	ids = ids[:cap(ids)]
	return memory{name, func() string { return fmt.Sprint(ids) }, func() {
		for i := range ids {
			ids[i] = -9
		}
	}}
}

// occMemory is the memory of a list of places, and of the Ids of each.
func occMemory(name string, list []impl.Occ) []memory {
	var parts []memory
	for i, o := range list {
		parts = append(parts, idMemory(fmt.Sprint(name, " Ids ", i), o.Ids))
	}
	list = list[:cap(list)]
	text := func() string {
		var times []int
		for _, o := range list {
			times = append(times, o.From, o.To, len(o.Ids))
		}
		return fmt.Sprint(times)
	}
	return append(parts, memory{name, text, func() {
		for i := range list {
			list[i] = occ(-9, -9, -9)
		}
	}})
}

// graphMemory is all lists of a graph.
func graphMemory(name string, g impl.Graph) []memory {
	var parts []memory
	for place, n := range g.Nodes {
		name := fmt.Sprint(name, " node ", place, " ")
		parts = append(parts, idMemory(name+"Kids", n.Kids))
		for part, list := range map[string][]impl.Occ{"Pair.Left": n.Pair.Left, "Pair.Right": n.Pair.Right, "Span.Left": n.Span.Left, "Span.Mid": n.Span.Mid, "Due": n.Due} {
			parts = append(parts, occMemory(name+part, list)...)
		}
	}
	nodes := g.Nodes[:cap(g.Nodes)]
	text := func() string {
		var numbers []int
		for _, n := range nodes {
			numbers = append(numbers, n.Kind, n.Sym, n.N, n.Many, len(n.Kids), len(n.Pair.Left), len(n.Pair.Right), len(n.Span.Left), len(n.Span.Mid), len(n.Due))
		}
		return fmt.Sprint(numbers)
	}
	return append(parts, memory{name, text, func() {
		for i := range nodes {
			nodes[i] = impl.Node{Kind: -9}
		}
	}})
}

// roomy is the same graph, of which each list has spare room that is not empty.
func roomy(g impl.Graph) impl.Graph {
	g = copiedGraph(g)
	occs := func(list []impl.Occ) []impl.Occ {
		for i := range list {
			list[i].Ids = append(list[i].Ids, 7, 8, 9)[:len(list[i].Ids)]
		}
		return append(list, occ(70, 80, 9), occ(71, 81, 9), occ(72, 82, 9))[:len(list)]
	}
	for i := range g.Nodes {
		n := &g.Nodes[i]
		n.Kids = append(n.Kids, 70, 71)[:len(n.Kids)]
		n.Pair = impl.Pair{Left: occs(n.Pair.Left), Right: occs(n.Pair.Right)}
		n.Span = impl.Span{Left: occs(n.Span.Left), Mid: occs(n.Span.Mid)}
		n.Due = occs(n.Due)
	}
	g.Nodes = append(g.Nodes, impl.Node{Kind: 70}, impl.Node{Kind: 71})[:len(g.Nodes)]
	return g
}

// texts is what each of some memories holds.
func texts(parts []memory) []string {
	var list []string
	for _, part := range parts {
		list = append(list, part.text())
	}
	return list
}

// holdApart asks that what is overwritten in one list is to be seen in no other one; make gives the same lists each time, in new memory.
func holdApart(t *testing.T, make func() []memory) {
	t.Helper()
	for spoilt := range len(make()) {
		parts := make()
		before := texts(parts)
		parts[spoilt].spoil()
		for i, text := range texts(parts) {
			if i != spoilt && text != before[i] {
				t.Fatalf("%s and %s share memory", parts[spoilt].name, parts[i].name)
			}
		}
	}
}

// memoryGraphs is graphs of all kinds, at which something waits and is due, at a time, and finds something.
func memoryGraphs(t *testing.T) []impl.Graph {
	t.Helper()
	var graphs []impl.Graph
	for _, look := range []string{"a", "or a a", "or a plus 2 a", "and a a", "and b a", "seq a a", "seq b a", "not a c a", "not b c a", "each b a c", "each a a a", "plus 2 a", "plus 1 plus 1 a", "and seq b a plus 2 seq b a", "or seq b a seq b a", "not plus 1 b plus 1 c or a plus 2 b"} {
		for _, mode := range []int{0, 2, 4} {
			g := impl.GraphOf(exOf(t, look), mode)
			for _, e := range evsOf(t, "b1 a2 b3 c5 b6") {
				g, _ = holdGraphStep(t, g, e)
			}
			for place := range g.Nodes {
				n := &g.Nodes[place]
				n.Pair.Right = append(n.Pair.Right, occ(5, 6, 3, 4))
				n.Span.Mid = append(n.Span.Mid, occ(6, 6, 4, 5))
			}
			graphs = append(graphs, g)
		}
	}
	return graphs
}

// A step writes into nothing that was handed in, nor behind its end, and what it tells shares no memory with it, nor one list of it with another one.
func TestGraphMemory(t *testing.T) {
	found := 0
	for _, g := range memoryGraphs(t) {
		for _, e := range []impl.Ev{{At: 7}, {At: 9}, {Sym: 2, At: 7}, {Sym: 1, At: 8}} {
			holdApart(t, func() []memory {
				in := roomy(g)
				lists := graphMemory("the graph handed in", in)
				before := texts(lists)
				next, list := impl.GraphStep(in, e)
				if !slices.Equal(texts(lists), before) {
					t.Fatalf("%s is changed by %v: %s", textGraph(g), e, textGraph(in))
				}
				found += len(list)
				lists = append(lists, graphMemory("the graph", next)...)
				return append(lists, occMemory("found", list)...)
			})
		}
	}
	if found < 1000 {
		t.Errorf("only %d are found", found)
	}
	for _, look := range []string{"a", "or a a", "each plus 1 a plus 2 or b c plus 3 or d plus 4 e", "and seq a b plus 2 seq a b"} {
		x := exOf(t, look)
		x.Kids = append(make([]impl.Ex, 0, 9), x.Kids...)
		for _, mode := range modes {
			holdApart(t, func() []memory { return graphMemory("graph", impl.GraphOf(x, mode)) })
		}
		impl.GraphMany(x)
		if behind := x.Kids[:cap(x.Kids)]; !sameEx(x, exOf(t, look)) || slices.ContainsFunc(behind[len(x.Kids):], func(kid impl.Ex) bool { return !sameEx(kid, impl.Ex{}) }) {
			t.Errorf("%s is changed", look)
		}
	}
	store := evsOf(t, "a1 b2 a3 c4 b6 a7 b8")
	kept := slices.Clone(store)
	for _, look := range []string{"or a a", "seq a b", "and a b", "or plus 1 a seq a b", "not a c b", "each a b c"} {
		for _, mode := range modes {
			for many := range 6 {
				holdApart(t, func() []memory {
					found, _ := impl.GraphRun(exOf(t, look), mode, store[:many])
					return occMemory("found", found)
				})
			}
		}
	}
	if !same(store, kept) {
		t.Errorf("the events are changed: %v", store)
	}
}

// Holding graphs against each other, and asking whether they are ok, writes into nothing.
func TestGraphAskedWritesNothing(t *testing.T) {
	for _, g := range memoryGraphs(t) {
		a, b := roomy(g), roomy(g)
		lists := append(graphMemory("a", a), graphMemory("b", b)...)
		before := texts(lists)
		impl.GraphOk(a)
		impl.GraphSame(a, b)
		b.Mode++
		impl.GraphSame(a, b)
		impl.GraphOk(b)
		if !slices.Equal(texts(lists), before) {
			t.Errorf("%s is changed", textGraph(g))
		}
	}
}
