package tests

import (
	"fmt"
	"math"
	"math/rand"
	"slices"
	"strings"
	"testing"
	"unsafe"

	"loop.example/bellman/impl"
)

// codes is how a call ends, by its code.
var codes = []string{"fine", "deep", "full", "range", "form"}

// rulesOf is rules, from their lines, with ; between.
func rulesOf(t *testing.T, lines string) []impl.Rule {
	t.Helper()
	var list []impl.Rule
	for _, line := range strings.Split(lines, ";") {
		r, ok := readByPattern(strings.TrimSpace(line))
		if !ok {
			t.Fatalf("%q is no rule", line)
		}
		list = append(list, r)
	}
	return list
}

// engAfter is an engine to which events happened, but by which nothing followed: what a call does next can be told from it at any time.
func engAfter(t *testing.T, rules []impl.Rule, events []impl.Ev) impl.Eng {
	t.Helper()
	e := impl.Eng{Rules: copiedRules(rules), Events: slices.Clone(events), Keys: make([]int, 4)}
	for _, r := range rules {
		g := graphModelOf(r.Ex, r.Mode)
		for _, ev := range events {
			g, _ = stepModel(g, ev)
		}
		e.Graphs = append(e.Graphs, g)
	}
	if !okEng(e) {
		t.Fatalf("made a wrong engine: %s", textEng(e))
	}
	return e
}

// okRules is RulesOk, told otherwise.
func okRules(list []impl.Rule) bool {
	names := map[string]bool{}
	for _, r := range list {
		if !okRule(r) {
			return false
		}
		names[r.Name] = true
	}
	return len(list) <= 4 && len(names) == len(list)
}

// okEng is EngOk, told otherwise.
func okEng(e impl.Eng) bool {
	ok := okRules(e.Rules) && okEvs(e.Events) && len(e.Rules) == len(e.Graphs) && len(e.Keys) == 4
	for _, g := range e.Graphs {
		ok = ok && okGraph(g) && !g.Full && g.Seen == len(e.Events) && g.Now == lastAt(e.Events)
	}
	for _, key := range e.Keys {
		ok = ok && key >= 0 && key <= 1000
	}
	for _, f := range e.Fired {
		ok = ok && f.Rule >= 0 && f.Rule < len(e.Rules) && okOcc(f.Occ) && f.Occ.Ids[len(f.Occ.Ids)-1] < len(e.Events)
	}
	return ok
}

// copiedFires is the same in memory of its own.
func copiedFires(list []impl.Fire) []impl.Fire {
	list = slices.Clone(list)
	for i := range list {
		list[i].Occ = copiedOccs([]impl.Occ{list[i].Occ})[0]
	}
	return list
}

// copiedEng is the same in memory of its own.
func copiedEng(e impl.Eng) impl.Eng {
	e.Rules = copiedRules(e.Rules)
	e.Graphs = slices.Clone(e.Graphs)
	for i := range e.Graphs {
		e.Graphs[i] = copiedGraph(e.Graphs[i])
	}
	e.Events, e.Keys, e.Fired = slices.Clone(e.Events), slices.Clone(e.Keys), copiedFires(e.Fired)
	return e
}

// textFires is all that followed.
func textFires(list []impl.Fire) string {
	var words []string
	for _, f := range list {
		words = append(words, fmt.Sprint(f.Rule, ":", textOccs([]impl.Occ{f.Occ})))
	}
	return strings.Join(words, " ")
}

// textEng is all that is in an engine: two are the same if their texts are.
func textEng(e impl.Eng) string {
	var lines []string
	for _, r := range e.Rules {
		look := "wrong"
		if okEx(r.Ex) {
			look = textEx(r.Ex)
		}
		lines = append(lines, fmt.Sprintf("%q %d %d %d %d %d %d %d %s", r.Name, r.Pri, r.Mode, r.Low, r.High, r.Key, r.Add, r.Raise, look))
	}
	for _, g := range e.Graphs {
		lines = append(lines, textGraph(g))
	}
	lines = append(lines, fmt.Sprint(append([]impl.Ev{}, e.Events...), append([]int{}, e.Keys...)), textFires(e.Fired))
	return strings.Join(lines, "\n")
}

// modelFinds is what is found by an event of what a rule looks for, and whether it is too much.
type modelFinds func(then *impl.Eng, rule int, e impl.Ev) ([]impl.Occ, bool)

// findsByGraph asks the graph of the rule.
func findsByGraph(then *impl.Eng, rule int, e impl.Ev) ([]impl.Occ, bool) {
	next, found := stepModel(then.Graphs[rule], e)
	then.Graphs[rule] = next
	return found, next.Full
}

// findsByMeaning asks for all that is meant, and takes what is later than the event ahead.
func findsByMeaning(then *impl.Eng, rule int, _ impl.Ev) ([]impl.Occ, bool) {
	r, before := then.Rules[rule], lastAt(then.Events[:len(then.Events)-1])
	all, ok := meanModel(r.Ex, r.Mode, then.Events)
	return slices.DeleteFunc(all, func(o impl.Occ) bool { return o.To <= before }), !ok
}

// followModel lets one rule follow one that is found, and says the code and what happens by it, if anything.
func followModel(then *impl.Eng, rule int, o impl.Occ, raised int) (int, []impl.Ev) {
	r, last := then.Rules[rule], slices.Max(o.Ids)
	if last >= len(then.Events) || then.Events[last].Val < r.Low || then.Events[last].Val > r.High {
		return 0, nil
	}
	if sum := then.Keys[r.Key] + r.Add; sum < 0 || sum > 1000 {
		return 3, nil
	}
	then.Keys[r.Key] += r.Add
	then.Fired = append(then.Fired, impl.Fire{Rule: rule, Occ: o})
	if r.Raise < 0 {
		return 0, nil
	}
	if raised == 6 {
		return 1, nil
	}
	return 0, []impl.Ev{{Sym: r.Raise, Val: then.Events[last].Val}}
}

// callModel is EngCall, told otherwise: all events of the call stand in one row, which grows while it is gone through.
func callModel(finds modelFinds, e impl.Eng, sym, gap, val int) (impl.Eng, int, []impl.Fire) {
	if !okEng(e) {
		return impl.Eng{}, 4, nil
	}
	if sym < 0 || sym > 4 || gap < 1 || gap > 20 || val < 0 || val > 100 {
		return e, 4, nil
	}
	then := copiedEng(e)
	row := []impl.Ev{{Sym: sym, Val: val}}
	for n := 0; n < len(row); n++ {
		one := row[n]
		one.At = lastAt(then.Events) + 1
		if n == 0 {
			one.At += gap - 1
		}
		then.Events = append(then.Events, one)
		if len(then.Events) > 24 || one.At > 1000 {
			return e, 2, nil
		}
		for _, rule := range orderModel(e.Rules) {
			found, full := finds(&then, rule, one)
			if full {
				return e, 2, nil
			}
			for _, o := range found {
				code, more := followModel(&then, rule, o, len(row)-1)
				if code != 0 {
					return e, code, nil
				}
				row = append(row, more...)
			}
		}
	}
	return then, 0, then.Fired[len(e.Fired):]
}

// meantModel is what should have followed of each rule.
func meantModel(e impl.Eng) ([][]impl.Occ, bool) {
	var meant [][]impl.Occ
	for _, r := range e.Rules {
		all, ok := meanModel(r.Ex, r.Mode, e.Events)
		if !ok {
			return nil, false
		}
		meant = append(meant, slices.DeleteFunc(all, func(o impl.Occ) bool {
			val := e.Events[slices.Max(o.Ids)].Val
			return val < r.Low || val > r.High
		}))
	}
	return meant, true
}

// meansModel is EngMeans, told otherwise.
func meansModel(e impl.Eng) bool {
	if !okEng(e) {
		return false
	}
	followed := make([][]impl.Occ, len(e.Rules))
	for _, f := range e.Fired {
		followed[f.Rule] = append(followed[f.Rule], f.Occ)
	}
	meant, ok := meantModel(e)
	for i := range meant {
		ok = ok && textOccs(meant[i]) == textOccs(followed[i])
	}
	return ok
}

// sumModel is EngSum, told otherwise: key by key.
func sumModel(e impl.Eng) []int {
	if !okEng(e) {
		return nil
	}
	var sums []int
	for key := range 4 {
		sum := 0
		for _, f := range e.Fired {
			if r := e.Rules[f.Rule]; r.Key == key {
				sum += r.Add
			}
		}
		sums = append(sums, sum)
	}
	return sums
}

// holdEng holds all that the program says of one engine against the models, and says whether it is ok.
func holdEng(t *testing.T, name string, e impl.Eng) bool {
	t.Helper()
	ok := okEng(e)
	if impl.EngOk(e) != ok || impl.EngMeans(e) != meansModel(e) || !slices.Equal(impl.EngSum(e), sumModel(e)) {
		t.Fatalf("%s: EngOk %v, want %v; EngMeans %v, want %v; EngSum %v, want %v: %s", name, impl.EngOk(e), ok, impl.EngMeans(e), meansModel(e), impl.EngSum(e), sumModel(e), textEng(e))
	}
	if !impl.EngSame(e, e) {
		t.Fatalf("%s: not the same as itself", name)
	}
	if !ok {
		next, code, fired := impl.EngCall(e, 0, 1, 0)
		if textEng(next) != textEng(impl.Eng{}) || code != 4 || len(fired) != 0 {
			t.Fatalf("%s: EngCall = %s, %d, %v", name, textEng(next), code, fired)
		}
	}
	return ok
}

// holdCall holds a call against the model, asks that a call that ends badly leaves all as it was, and answers what EngCall did.
func holdCall(t *testing.T, e impl.Eng, sym, gap, val int) (impl.Eng, int, []impl.Fire) {
	t.Helper()
	before := textEng(e)
	want, wantCode, wantFired := callModel(findsByGraph, e, sym, gap, val)
	next, code, fired := impl.EngCall(e, sym, gap, val)
	if textEng(next) != textEng(want) || code != wantCode || textFires(fired) != textFires(wantFired) {
		t.Fatalf("EngCall(%s, %d, %d, %d)\n= %s, %d, %s\nwant %s, %d, %s", before, sym, gap, val, textEng(next), code, textFires(fired), textEng(want), wantCode, textFires(wantFired))
	}
	if textEng(e) != before {
		t.Fatalf("%s is changed by a call: %s", before, textEng(e))
	}
	if impl.EngSame(next, e) != (textEng(next) == before) {
		t.Fatalf("EngSame of %s and %s", textEng(next), before)
	}
	if code != 0 && okEng(e) {
		if textEng(next) != before || !impl.EngSame(next, e) || len(fired) != 0 {
			t.Fatalf("a call that ended with %d left %s, %s, of %s", code, textEng(next), textFires(fired), before)
		}
		if last, again, more := impl.EngCall(next, sym, gap, val); again != code || len(more) != 0 || textEng(last) != before {
			t.Fatalf("the same call once more: %d, not %d, of %s", again, code, before)
		}
	}
	return next, code, fired
}

// holdMeant asks that an engine that was called with all that is in it is what is meant by its rules over all that happened.
func holdMeant(t *testing.T, e impl.Eng) {
	t.Helper()
	meant, ok := meantModel(e)
	for rule, want := range meant {
		var got []impl.Occ
		for _, f := range e.Fired {
			if f.Rule == rule {
				got = append(got, f.Occ)
			}
		}
		ok = ok && sameOccs(got, want)
	}
	if !ok || !impl.EngOk(e) || !impl.EngMeans(e) || !slices.Equal(e.Keys, impl.EngSum(e)) {
		t.Fatalf("ok %v, means %v, sum %v: %s", impl.EngOk(e), impl.EngMeans(e), impl.EngSum(e), textEng(e))
	}
}

// tellCalls lets calls be done from an engine on: for each how it ended and what followed by it, with the names of the rules, with ; between; and the engine then.
func tellCalls(t *testing.T, e impl.Eng, calls string) (string, impl.Eng) {
	t.Helper()
	var texts []string
	for _, call := range evsCalls(t, calls) {
		next, code, fired := holdCall(t, e, call.Sym, call.At, call.Val)
		words := []string{codes[code]}
		for _, f := range fired {
			words = append(words, e.Rules[f.Rule].Name, textOccs([]impl.Occ{f.Occ}))
		}
		texts = append(texts, strings.Join(words, " "))
		e = next
	}
	return strings.Join(texts, "; "), e
}

// evsCalls is calls: At is the gap. A letter with a number ahead stands for so many calls of it.
func evsCalls(t *testing.T, calls string) []impl.Ev {
	t.Helper()
	var list []impl.Ev
	for _, word := range strings.Fields(calls) {
		many := 1
		if word[0] >= '1' && word[0] <= '9' {
			many = int(word[0] - '0')
			word = word[1:]
		}
		for range many {
			list = append(list, evsOf(t, word)...)
		}
	}
	return list
}

// engCase is rules, calls, and what is wanted: how each ended and what followed, and the events and keys at the end.
type engCase struct {
	rules, calls, want, events, keys string
}

// holdEngCases holds cases from EngOpen on.
func holdEngCases(t *testing.T, cases []engCase) {
	t.Helper()
	for _, c := range cases {
		got, e := tellCalls(t, impl.EngOpen(rulesOf(t, c.rules)), c.calls)
		keys := strings.Trim(fmt.Sprint(e.Keys), "[]")
		if got != c.want || impl.EvsText(e.Events) != c.events || keys != c.keys {
			t.Errorf("%s: %s:\n%s; %s; %s\nwant\n%s; %s; %s", c.rules, c.calls, got, impl.EvsText(e.Events), keys, c.want, c.events, c.keys)
		}
		holdMeant(t, e)
	}
}

func TestEngBounds(t *testing.T) {
	if impl.EngFine != 0 || impl.EngDeep != 1 || impl.EngFull != 2 || impl.EngRange != 3 || impl.EngForm != 4 {
		t.Error("codes of the document")
	}
	if impl.EngMost != 6 || impl.EngTop != 1000 || impl.EngGap != 20 {
		t.Error("bounds of the document")
	}
}

// The rules, a graph for each, nothing that happened and nothing that followed, and keys of 0.
func TestEngOpen(t *testing.T) {
	hold := func(rules []impl.Rule) {
		t.Helper()
		want := impl.Eng{}
		if okRules(rules) {
			want = impl.Eng{Rules: rules, Keys: []int{0, 0, 0, 0}}
			for _, r := range rules {
				want.Graphs = append(want.Graphs, graphModelOf(r.Ex, r.Mode))
			}
		}
		got := impl.EngOpen(rules)
		if textEng(got) != textEng(want) {
			t.Fatalf("EngOpen(%v) = %s, want %s", rules, textEng(got), textEng(want))
		}
		if holdEng(t, "opened", got) != okRules(rules) || impl.EngMeans(got) != okRules(rules) {
			t.Fatalf("EngOpen(%v) is not ok", rules)
		}
	}
	for _, list := range [][]impl.Rule{nil, {}, {middle()}, {plain("a", 0), middle()}, {middle(), middle()}, {plain("a", 1), plain("b", 2), plain("c", 3), plain("d", 4)}, {plain("a", 1), plain("b", 2), plain("c", 3), plain("d", 4), plain("e", 5)}, {{}}} {
		hold(list)
	}
	for name, r := range wrongRules() {
		for _, list := range [][]impl.Rule{{r}, {plain("x", 1), r}, {r, plain("x", 1)}} {
			if got := impl.EngOpen(list); textEng(got) != textEng(impl.Eng{}) || impl.EngOk(got) {
				t.Errorf("%s: %s", name, textEng(got))
			}
		}
	}
	r := rand.New(rand.NewSource(91))
	for range 3000 {
		hold(someRules(r))
	}
}

// The engine of no rules: all calls that are right are fine, till it is full.
func TestEngNoRules(t *testing.T) {
	for _, e := range []impl.Eng{impl.EngOpen(nil), impl.EngOpen([]impl.Rule{}), {Keys: make([]int, 4)}} {
		if !holdEng(t, "no rules", e) || !impl.EngMeans(e) || !slices.Equal(impl.EngSum(e), []int{0, 0, 0, 0}) {
			t.Error("an engine of no rules is none")
		}
		at := 0
		for n := range 27 {
			next, code, fired := holdCall(t, e, n%5, 1+n%20, n)
			if n >= 24 {
				if code != 2 {
					t.Errorf("call %d: %d", n, code)
				}
				continue
			}
			at += 1 + n%20
			if code != 0 || len(fired) != 0 || len(next.Events) != n+1 || next.Events[n] != (impl.Ev{Sym: n % 5, At: at, Val: n}) {
				t.Errorf("call %d: %d, %s", n, code, textEng(next))
			}
			holdMeant(t, next)
			e = next
		}
	}
	for _, e := range []impl.Eng{{}, {Keys: []int{}}, {Keys: make([]int, 3)}, {Keys: make([]int, 5)}} {
		if holdEng(t, "nothing", e) {
			t.Errorf("%s is one", textEng(e))
		}
	}
}

// Calls one behind the other, and what follows by them.
func TestEngCalls(t *testing.T) {
	holdEngCases(t, []engCase{
		{"order 9 2 0 100 0 1 d seq a b; late 5 0 0 100 1 5 - not a b plus 4 a; big 5 1 10 100 2 1 - d; loop 0 0 50 100 3 1 d d", "a1=3 b2=12 a1 c6 a1 b1=60",
			"fine; fine order 1-3(0,1) big 4-4(2); fine; fine; fine; deep", "a1=3 b3=12 d4=12 a5 c11 a12", "1 0 1 0"},
		{"up 5 0 0 100 1 2 c seq a b; see 5 0 5 9 0 1 - c; loop 1 0 0 100 2 0 d d", "a1=3 b2=7 d1 a3",
			"fine; fine up 1-3(0,1) see 4-4(2); deep; fine", "a1=3 b3=7 c4=7 a7", "1 2 0 0"},
		{"one 0 0 0 100 3 9 - a", "a20 b20 a20 a1", "fine one 20-20(0); fine; fine one 60-60(2); fine one 61-61(3)", "a20 b40 a60 a61", "0 0 0 27"},
		// Each way to pair.
		{"m 0 0 0 100 0 1 - seq a b", "a1 a1 b1 b1", "fine; fine; fine m 1-3(0,2) m 2-3(1,2); fine m 1-4(0,3) m 2-4(1,3)", "a1 a2 b3 b4", "4 0 0 0"},
		{"m 0 1 0 100 0 1 - seq a b", "a1 a1 b1 b1", "fine; fine; fine m 2-3(1,2); fine m 2-4(1,3)", "a1 a2 b3 b4", "2 0 0 0"},
		{"m 0 2 0 100 0 1 - seq a b", "a1 a1 b1 b1", "fine; fine; fine m 1-3(0,2); fine m 2-4(1,3)", "a1 a2 b3 b4", "2 0 0 0"},
		{"m 0 3 0 100 0 1 - seq a b", "a1 a1 b1 b1", "fine; fine; fine m 1-3(0,2) m 2-3(1,2); fine", "a1 a2 b3 b4", "2 0 0 0"},
		{"m 0 4 0 100 0 1 - seq a b", "a1 a1 b1 b1", "fine; fine; fine m 1-3(0,1,2); fine", "a1 a2 b3 b4", "1 0 0 0"},
		// What was due ahead of a call follows by it, with what is due at its At; what is due behind it not yet.
		{"p 0 0 0 100 0 1 - plus 3 a", "a1 a1 a1 b1 b1 b9", "fine; fine; fine; fine p 1-4(0); fine p 2-5(1); fine p 3-6(2)", "a1 a2 a3 b4 b5 b14", "3 0 0 0"},
		{"p 0 0 0 100 0 1 - plus 3 a", "a1 a1 a1 b2 b1", "fine; fine; fine; fine p 1-4(0) p 2-5(1); fine p 3-6(2)", "a1 a2 a3 b5 b6", "3 0 0 0"},
		{"p 0 0 0 100 0 1 - or plus 3 a plus 1 a", "a1 b9", "fine; fine p 1-2(0) p 1-4(0)", "a1 b10", "2 0 0 0"},
		// A call that ended badly did not happen: its time neither.
		{"l 0 0 0 100 0 1 a a; s 5 0 0 100 1 1 - seq b c", "b1 a20 c1", "fine; deep; fine s 1-2(0,1)", "b1 c2", "0 1 0 0"},
	})
}

// What waits to happen does so in order, each 1 later, and with the number of the last event of what was found.
func TestEngRaise(t *testing.T) {
	holdEngCases(t, []engCase{
		{"r 0 0 0 100 0 1 b a", "a5=42", "fine r 5-5(0)", "a5=42 b6=42", "1 0 0 0"},
		{"r 0 0 0 100 0 1 a b", "b20=100 b20", "fine r 20-20(0); fine r 41-41(2)", "b20=100 a21=100 b41 a42", "2 0 0 0"},
		{"r 0 0 0 100 0 1 e a", "a1 a1", "fine r 1-1(0); fine r 3-3(2)", "a1 e2 a3 e4", "2 0 0 0"},
		// All that is raised by one event happens ahead of what is raised by these.
		{"x 9 0 0 100 0 1 b a; y 8 0 0 100 0 1 c a; z 7 0 0 100 0 1 d b", "a1=7", "fine x 1-1(0) y 1-1(0) z 2-2(1)", "a1=7 b2=7 c3=7 d4=7", "3 0 0 0"},
		{"x 9 0 0 100 0 1 b a; y 8 0 0 100 0 1 c a; z 7 0 0 100 0 1 d b; w 7 0 0 100 0 1 e c", "a1", "fine x 1-1(0) y 1-1(0) z 2-2(1) w 3-3(2)", "a1 b2 c3 d4 e5", "4 0 0 0"},
		{"z 9 0 0 100 0 1 d b; w 9 0 0 100 0 1 e d; x 9 0 0 100 0 1 b a", "a3", "fine x 3-3(0) z 4-4(1) w 5-5(2)", "a3 b4 d5 e6", "3 0 0 0"},
		// Of one rule in the order in which it was found, each with its own number.
		{"r 0 0 0 100 0 1 e plus 2 a", "a1=5 a1=6 c9=7", "fine; fine; fine r 1-3(0) r 2-4(1)", "a1=5 a2=6 c11=7 e12=5 e13=6", "2 0 0 0"},
		{"r 0 0 0 100 0 1 e or plus 2 a plus 1 b", "a1=5 b1=6 c1=7", "fine; fine; fine r 1-3(0) r 2-3(1)", "a1=5 b2=6 c3=7 e4=5 e5=6", "2 0 0 0"},
		{"r 0 0 0 100 0 1 e and a b", "b1=5 a1=6", "fine; fine r 1-2(0,1)", "b1=5 a2=6 e3=6", "1 0 0 0"},
		{"r 0 4 0 100 0 1 e seq a b", "a1=5 a1=6 b1=9", "fine; fine; fine r 1-3(0,1,2)", "a1=5 a2=6 b3=9 e4=9", "1 0 0 0"},
		{"r 0 0 0 100 0 1 e plus 1 seq a b", "a1=5 b1=6 c1=9", "fine; fine; fine r 1-3(0,1)", "a1=5 b2=6 c3=9 e4=6", "1 0 0 0"},
		{"r 0 0 0 100 0 1 e and b plus 3 a", "a1=5 b1=6 c9=9", "fine; fine; fine r 1-4(0,1)", "a1=5 b2=6 c11=9 e12=6", "1 0 0 0"},
		// What is raised is of what is looked for, too: by the rule itself and by others, ahead of it and behind it.
		{"r 0 0 0 100 0 1 a seq a b", "a1 b1 b1", "fine; fine r 1-2(0,1); fine r 1-4(0,3) r 3-4(2,3)", "a1 b2 a3 b4 a5 a6", "3 0 0 0"},
		{"s 9 0 0 100 1 1 - seq b e; r 0 0 0 100 0 1 e seq a b", "a1 b1", "fine; fine r 1-2(0,1) s 2-3(1,2)", "a1 b2 e3", "1 1 0 0"},
		{"s 0 0 0 100 1 1 - seq b e; r 9 0 0 100 0 1 e seq a b", "a1 b1", "fine; fine r 1-2(0,1) s 2-3(1,2)", "a1 b2 e3", "1 1 0 0"},
		{"n 0 0 0 100 1 1 - not a c b; r 9 0 0 100 0 1 c d", "a1 b1 d1 b1", "fine; fine n 1-2(0,1); fine r 3-3(2); fine", "a1 b2 d3 c4 b5", "1 1 0 0"},
		// What is due at the time of what is raised follows by that, and what is due behind it not yet.
		{"p 0 0 0 100 1 1 - plus 2 a; r 9 0 0 100 0 1 c b", "a1 b1", "fine; fine r 2-2(1) p 1-3(0)", "a1 b2 c3", "1 1 0 0"},
		{"p 9 0 0 100 1 1 - plus 1 a; r 0 0 0 100 0 1 c b", "a1 b1", "fine; fine p 1-2(0) r 2-2(1)", "a1 b2 c3", "1 1 0 0"},
		{"p 9 0 0 100 1 1 - plus 3 a; r 0 0 0 100 0 1 c b", "a1 b1 d1", "fine; fine r 2-2(1); fine p 1-4(0)", "a1 b2 c3 d4", "1 1 0 0"},
		{"p 9 0 0 100 1 1 - plus 1 b; r 0 0 0 100 0 1 c b", "b1", "fine r 1-1(0) p 1-2(0)", "b1 c2", "1 1 0 0"},
		{"p 9 0 0 100 1 1 d plus 1 b; r 0 0 0 100 0 1 c b", "b1", "fine r 1-1(0) p 1-2(0)", "b1 c2 d3", "1 1 0 0"},
		{"p 9 0 0 100 1 1 c plus 1 b; r 0 0 0 100 0 1 b a", "a1 d1", "fine r 1-1(0); fine p 2-3(1)", "a1 b2 d3 c4", "1 1 0 0"},
		{"q 0 0 0 100 1 1 - seq plus 2 a c; r 9 0 0 100 0 1 c b; s 9 0 0 100 0 1 c c", "a1 b1", "fine; deep", "a1", "0 0 0 0"},
		{"q 0 0 0 100 1 1 - seq plus 2 a c; r 9 0 0 100 0 1 d b; s 9 0 0 100 0 1 c d", "a1 b1", "fine; fine r 2-2(1) s 3-3(2) q 1-4(0,3)", "a1 b2 d3 c4", "2 1 0 0"},
	})
}

// Rules follow by how soon they should; of one Pri in order; each all that it found, ahead of the next one.
func TestEngOrder(t *testing.T) {
	holdEngCases(t, []engCase{
		{"x 1 0 0 100 0 1 d a; y 5 0 0 100 0 1 e a; z 5 0 0 100 0 1 c a", "a1", "fine y 1-1(0) z 1-1(0) x 1-1(0)", "a1 e2 c3 d4", "3 0 0 0"},
		{"z 5 0 0 100 0 1 c a; y 5 0 0 100 0 1 e a; x 9 0 0 100 0 1 d a; w 0 0 0 100 0 1 - a", "a1", "fine x 1-1(0) z 1-1(0) y 1-1(0) w 1-1(0)", "a1 d2 c3 e4", "4 0 0 0"},
		{"d 4 0 0 100 0 1 - a; c 4 0 0 100 1 1 - a; b 4 0 0 100 2 1 - a; a 4 0 0 100 3 1 - a", "a1", "fine d 1-1(0) c 1-1(0) b 1-1(0) a 1-1(0)", "a1", "1 1 1 1"},
		{"d 1 0 0 100 0 1 - a; c 2 0 0 100 1 1 - a; b 3 0 0 100 2 1 - a; a 4 0 0 100 3 1 - a", "a1", "fine a 1-1(0) b 1-1(0) c 1-1(0) d 1-1(0)", "a1", "1 1 1 1"},
		{"x 1 0 0 100 0 1 d seq a b; y 5 0 0 100 0 1 e seq a b", "a1 a1 b1", "fine; fine; fine y 1-3(0,2) y 2-3(1,2) x 1-3(0,2) x 2-3(1,2)", "a1 a2 b3 e4 e5 d6 d7", "4 0 0 0"},
		{"x 5 0 0 100 0 1 - or a plus 1 a; y 5 0 0 100 0 1 - or a plus 2 a", "a1 a9", "fine x 1-1(0) y 1-1(0); fine x 1-2(0) x 10-10(1) y 1-3(0) y 10-10(1)", "a1 a10", "6 0 0 0"},
		// A key that may not go below 0 is added to first, or it is not.
		{"up 9 0 0 100 2 1 - a; down 0 0 0 100 2 -1 - a", "a1 a1", "fine up 1-1(0) down 1-1(0); fine up 2-2(1) down 2-2(1)", "a1 a2", "0 0 0 0"},
		{"up 0 0 0 100 2 1 - a; down 9 0 0 100 2 -1 - a", "a1 b1", "range; fine", "b1", "0 0 0 0"},
		{"up 3 0 0 100 2 1 - a; down 3 0 0 100 2 -1 - a", "a1", "fine up 1-1(0) down 1-1(0)", "a1", "0 0 0 0"},
		{"down 3 0 0 100 2 -1 - a; up 3 0 0 100 2 1 - a", "a1", "range", "", "0 0 0 0"},
		{"down 3 0 0 100 2 -1 - a; up 3 0 0 100 1 1 - a", "a1", "range", "", "0 0 0 0"},
	})
}

// Low and High keep out just what has a number below or above, by the last event of what is found.
func TestEngLowHigh(t *testing.T) {
	holdEngCases(t, []engCase{
		{"r 0 0 5 7 0 1 - a", "a1=4 a1=5 a1=6 a1=7 a1=8 a1 a1=100", "fine; fine r 2-2(1); fine r 3-3(2); fine r 4-4(3); fine; fine; fine", "a1=4 a2=5 a3=6 a4=7 a5=8 a6 a7=100", "3 0 0 0"},
		{"r 0 0 5 5 0 1 - a", "a1=4 a1=5 a1=6", "fine; fine r 2-2(1); fine", "a1=4 a2=5 a3=6", "1 0 0 0"},
		{"r 0 0 0 0 0 1 - a", "a1 a1=1 a1=100", "fine r 1-1(0); fine; fine", "a1 a2=1 a3=100", "1 0 0 0"},
		{"r 0 0 100 100 0 1 - a", "a1 a1=99 a1=100", "fine; fine; fine r 3-3(2)", "a1 a2=99 a3=100", "1 0 0 0"},
		{"r 0 0 1 99 0 1 - a", "a1 a1=1 a1=99 a1=100", "fine; fine r 2-2(1); fine r 3-3(2); fine", "a1 a2=1 a3=99 a4=100", "2 0 0 0"},
		// Of what is found, not of what happens.
		{"r 0 0 5 5 0 1 - seq a b", "a1=5 b1=4 b1=5", "fine; fine; fine r 1-3(0,2)", "a1=5 b2=4 b3=5", "1 0 0 0"},
		{"r 0 0 5 5 0 1 - plus 2 a", "a1=5 a1=4 c1=5 c9=4", "fine; fine; fine r 1-3(0); fine", "a1=5 a2=4 c3=5 c12=4", "1 0 0 0"},
		{"r 0 0 5 5 0 1 - and a b", "b1=5 a1=4 a1=5 b1=5", "fine; fine; fine r 1-3(0,2); fine r 2-4(1,3) r 3-4(2,3)", "b1=5 a2=4 a3=5 b4=5", "3 0 0 0"},
		{"r 0 0 5 9 0 1 - or plus 2 a plus 1 b", "a1=9 b1=4 c9", "fine; fine; fine r 1-3(0)", "a1=9 b2=4 c11", "1 0 0 0"},
		{"r 0 0 5 9 0 1 - or plus 2 a plus 1 b", "a1=10 b1=5 c9", "fine; fine; fine r 2-3(1)", "a1=10 b2=5 c11", "1 0 0 0"},
		{"r 0 0 5 9 0 1 e or plus 2 a plus 1 b", "a1=10 b1=5 a1=9 c9", "fine; fine; fine r 2-3(1); fine r 3-5(2)", "a1=10 b2=5 a3=9 e4=5 c13 e14=9", "2 0 0 0"},
		// What is kept out is used up all the same, and raises nothing.
		{"r 0 2 5 5 0 1 e seq a b", "a1 a1 b1=4 b1=5 b1=5", "fine; fine; fine; fine r 2-4(1,3); fine", "a1 a2 b3=4 b4=5 e5=5 b6=5", "1 0 0 0"},
		{"r 0 0 5 5 0 -1 a a", "a1=4 a1=5 a1=6", "fine; range; fine", "a1=4 a2=6", "0 0 0 0"},
		{"r 0 0 5 5 0 1 a a", "a1=4 a1=5 a1=6", "fine; deep; fine", "a1=4 a2=6", "0 0 0 0"},
	})
}

// firesOfRow is what follows of a rule that finds each of so many letters, at 1 and so on, and the one at a time behind them.
func firesOfRow(name string, many, at int) string {
	text := ""
	for i := range many {
		text += fmt.Sprintf(" %s %d-%d(%d,%d)", name, i+1, at, i, at-1)
	}
	return text
}

// fines is so many calls that are fine, and by which nothing follows.
func fines(n int) string { return strings.Repeat("fine; ", n) }

// Just EngMost may be raised by a call, and one more is too much: all at once, and by what is raised.
func TestEngMost(t *testing.T) {
	holdEngCases(t, []engCase{
		{"r 0 0 0 100 0 1 c seq a b", "6a1 b1", fines(6) + "fine" + firesOfRow("r", 6, 7), "a1 a2 a3 a4 a5 a6 b7 c8 c9 c10 c11 c12 c13", "6 0 0 0"},
		{"r 0 0 0 100 0 1 c seq a b", "7a1 b1", fines(7) + "deep", "a1 a2 a3 a4 a5 a6 a7", "0 0 0 0"},
		{"r 0 0 0 100 0 1 - seq a b", "7a1 b1", fines(7) + "fine" + firesOfRow("r", 7, 8), "a1 a2 a3 a4 a5 a6 a7 b8", "7 0 0 0"},
		// Each call raises anew.
		{"r 0 3 0 100 0 1 c seq a b", "6a1 b1 5a1 b1", fines(6) + "fine" + firesOfRow("r", 6, 7) + "; " + fines(5) + "fine r 14-19(13,18) r 15-19(14,18) r 16-19(15,18) r 17-19(16,18) r 18-19(17,18)",
			"a1 a2 a3 a4 a5 a6 b7 c8 c9 c10 c11 c12 c13 a14 a15 a16 a17 a18 b19 c20 c21 c22 c23 c24", "11 0 0 0"},
		// By two rules, and by two together with what follows of these.
		{"r 9 0 0 100 0 1 c seq a b; s 0 0 0 100 1 1 d seq a b", "3a1 b1", fines(3) + "fine" + firesOfRow("r", 3, 4) + firesOfRow("s", 3, 4), "a1 a2 a3 b4 c5 c6 c7 d8 d9 d10", "3 3 0 0"},
		{"r 9 0 0 100 0 1 c seq a b; s 0 0 0 100 1 1 d or seq a b seq c c", "3a1 b1", fines(3) + "deep", "a1 a2 a3", "0 0 0 0"},
		{"r 9 0 0 100 0 1 c seq a b; s 0 1 0 100 1 1 d or seq a b seq c c", "3a1 b1", fines(3) + "fine" + firesOfRow("r", 3, 4) + " s 3-4(2,3) s 5-6(4,5) s 6-7(5,6)", "a1 a2 a3 b4 c5 c6 c7 d8 d9 d10", "3 3 0 0"},
		{"r 9 0 0 100 0 1 c seq a b; s 0 1 0 100 1 1 d or seq a b seq c c", "4a1 b1", fines(4) + "deep", "a1 a2 a3 a4", "0 0 0 0"},
	})
}

// Rules that raise what they look for, themselves or in a ring of two and three: without end, or just so often as something is there to be used up.
func TestEngRings(t *testing.T) {
	ring := " r 1-7(0,6) r 2-8(1,7) r 3-9(2,8) r 4-10(3,9) r 5-11(4,10) r 6-12(5,11)"
	ringEvents := "e1 e2 e3 e4 e5 e6 a7 a8 a9 a10 a11 a12 a13"
	holdEngCases(t, []engCase{
		{"r 0 0 0 100 0 1 a a", "b1 a1 b1", "fine; deep; fine", "b1 b2", "0 0 0 0"},
		{"r 0 0 0 100 0 0 a a; up 9 0 0 100 1 9 - a", "a1", "deep", "", "0 0 0 0"},
		{"x 0 0 0 100 0 1 b a; y 0 0 0 100 1 1 a b", "a1 b1 c1", "deep; deep; fine", "c1", "0 0 0 0"},
		{"x 0 0 0 100 0 1 b a; y 9 0 0 100 1 1 c b; z 5 0 0 100 1 1 a c", "a1 b1 c1 d1", "deep; deep; deep; fine", "d1", "0 0 0 0"},
		{"r 0 2 0 100 0 1 a seq e a", "6e1 a1", fines(6) + "fine" + ring, ringEvents, "6 0 0 0"},
		{"r 0 2 0 100 0 1 a seq e a", "7e1 a1", fines(7) + "deep", "e1 e2 e3 e4 e5 e6 e7", "0 0 0 0"},
		{"x 0 2 0 100 0 1 b seq e a; y 9 2 0 100 1 1 a seq e b", "3e1 a1", fines(3) + "fine x 1-4(0,3) y 1-5(0,4) x 2-6(1,5) y 2-7(1,6) x 3-8(2,7) y 3-9(2,8)", "e1 e2 e3 a4 b5 a6 b7 a8 b9 a10", "3 3 0 0"},
		{"x 0 2 0 100 0 1 b seq e a; y 9 2 0 100 1 1 a seq e b", "4e1 a1 b1", fines(4) + "deep; deep", "e1 e2 e3 e4", "0 0 0 0"},
		{"x 0 2 0 100 0 1 b seq e a; y 9 2 0 100 1 1 c seq e b; z 3 2 0 100 2 1 a seq e c", "2e1 a1=9", fines(2) + "fine x 1-3(0,2) y 1-4(0,3) z 1-5(0,4) x 2-6(1,5) y 2-7(1,6) z 2-8(1,7)", "e1 e2 a3=9 b4=9 c5=9 a6=9 b7=9 c8=9 a9=9", "2 2 2 0"},
		{"x 0 2 0 100 0 1 b seq e a; y 9 2 0 100 1 1 c seq e b; z 3 2 0 100 2 1 a seq e c", "3e1 a1=9 c1", fines(3) + "deep; deep", "e1 e2 e3", "0 0 0 0"},
		// What is raised last may be found, too, and by that a rule may follow that raises nothing.
		{"r 0 2 0 100 0 1 a seq e a; s 0 0 0 100 1 1 - plus 6 a", "6e1 a1", fines(6) + "fine" + ring + " s 7-13(6)", ringEvents, "6 1 0 0"},
		{"r 0 2 0 100 0 1 a seq e a; s 0 0 0 100 1 1 - seq b a", "5e1 b1 e1 a1", fines(7) + "fine r 1-8(0,7) s 6-8(5,7) r 2-9(1,8) s 6-9(5,8) r 3-10(2,9) s 6-10(5,9) r 4-11(3,10) s 6-11(5,10) r 5-12(4,11) s 6-12(5,11) r 7-13(6,12) s 6-13(5,12) s 6-14(5,13)",
			"e1 e2 e3 e4 e5 b6 e7 a8 a9 a10 a11 a12 a13 a14", "6 7 0 0"},
		// What ends badly may do so behind much that followed, by another rule, and by the last that happens.
		{"r 0 2 0 100 0 1 a seq e a; s 0 0 0 100 1 1 d plus 6 a", "6e1 a1 c1", fines(6) + "deep; fine", "e1 e2 e3 e4 e5 e6 c7", "0 0 0 0"},
		{"r 0 2 0 100 0 1 a seq e a; s 0 0 0 100 1 1 - plus 7 a", "6e1 a1 c1", fines(6) + "fine" + ring + "; fine s 7-14(6)", ringEvents + " c14", "6 1 0 0"},
		{"r 0 2 0 100 0 1 a seq e a; s 0 0 0 100 1 1 d plus 7 a", "6e1 a1 c1", fines(6) + "fine" + ring + "; deep", ringEvents, "6 0 0 0"},
		{"r 0 2 0 100 0 1 a seq e a; s 0 2 0 100 1 1 d seq b plus 7 a", "b1 6e1 a1 c1", fines(7) + "fine r 2-8(1,7) r 3-9(2,8) r 4-10(3,9) r 5-11(4,10) r 6-12(5,11) r 7-13(6,12); fine s 1-15(0,7)", "b1 e2 e3 e4 e5 e6 e7 a8 a9 a10 a11 a12 a13 a14 c15 d16", "6 1 0 0"},
		{"r 0 2 0 100 0 1 a seq e a; s 0 0 0 100 1 -1 - plus 6 a", "6e1 a1 c1", fines(6) + "range; fine", "e1 e2 e3 e4 e5 e6 c7", "0 0 0 0"},
		{"r 0 2 0 100 0 1 a seq e a; s 0 0 0 100 0 -6 - plus 6 a", "6e1 a1", fines(6) + "fine" + ring + " s 7-13(6)", ringEvents, "0 0 0 0"},
		{"r 0 2 0 100 0 1 a seq e a; s 0 0 0 100 0 -7 - plus 6 a", "6e1 a1", fines(6) + "range", "e1 e2 e3 e4 e5 e6", "0 0 0 0"},
	})
}

// A key may be just 0 and just EngTop, and one past each is too much, at once and behind much that followed.
func TestEngKeys(t *testing.T) {
	for _, c := range []struct {
		rules, before string
		keys          []int
		calls, want   string
		then          string
	}{
		{"r 0 0 0 100 2 -1 - a", "", []int{9, 9, 1, 9}, "a1 a1", "fine r 1-1(0); range", "9 9 0 9"},
		{"r 0 0 0 100 2 1 - a", "", []int{9, 9, 999, 9}, "a1 a1", "fine r 1-1(0); range", "9 9 1000 9"},
		{"r 0 0 0 100 0 9 - a", "", []int{991, 0, 0, 0}, "a1 a1", "fine r 1-1(0); range", "1000 0 0 0"},
		{"r 0 0 0 100 0 9 - a", "", []int{992, 0, 0, 0}, "a1", "range", "992 0 0 0"},
		{"r 0 0 0 100 3 -9 - a", "", []int{0, 0, 0, 9}, "a1 a1", "fine r 1-1(0); range", "0 0 0 0"},
		{"r 0 0 0 100 3 -9 - a", "", []int{1000, 1000, 1000, 8}, "a1", "range", "1000 1000 1000 8"},
		{"r 0 0 0 100 1 0 - a", "", []int{5, 0, 5, 5}, "a1", "fine r 1-1(0)", "5 0 5 5"},
		{"r 0 0 0 100 1 0 - a", "", []int{5, 1000, 5, 5}, "a1", "fine r 1-1(0)", "5 1000 5 5"},
		{"r 0 0 0 100 1 -9 - a", "", []int{0, 1000, 0, 0}, "a1", "fine r 1-1(0)", "0 991 0 0"},
		// Behind some that were found with it, of one event.
		{"r 0 0 0 100 0 -1 - seq a b", "a1 a2", []int{2, 0, 0, 0}, "b1", "fine r 1-3(0,2) r 2-3(1,2)", "0 0 0 0"},
		{"r 0 0 0 100 0 -1 - seq a b", "a1 a2 a3", []int{2, 0, 0, 0}, "b1 c1", "range; fine", "2 0 0 0"},
		{"r 0 0 0 100 0 1 - seq a b", "a1 a2", []int{998, 0, 0, 0}, "b1", "fine r 1-3(0,2) r 2-3(1,2)", "1000 0 0 0"},
		{"r 0 0 0 100 0 1 - seq a b", "a1 a2 a3", []int{998, 0, 0, 0}, "b1 c1", "range; fine", "998 0 0 0"},
		// Behind other rules and other events; a key that may be too much on its way may not be.
		{"up 9 0 0 100 0 9 b a; down 0 0 0 100 0 -9 c b; end 0 0 0 100 1 1 - c", "", []int{991, 999, 0, 0}, "a1", "fine up 1-1(0) down 2-2(1) end 3-3(2)", "991 1000 0 0"},
		{"up 9 0 0 100 0 9 b a; down 0 0 0 100 0 -9 c b; end 0 0 0 100 1 1 - c", "", []int{991, 1000, 0, 0}, "a1 d1", "range; fine", "991 1000 0 0"},
		{"up 9 0 0 100 0 9 b a; down 0 0 0 100 0 -9 c b; end 0 0 0 100 1 1 - c", "", []int{992, 999, 0, 0}, "a1 d1", "range; fine", "992 999 0 0"},
		{"up 9 0 0 100 0 9 - a; down 0 0 0 100 0 -9 - a", "", []int{992, 0, 0, 0}, "a1", "range", "992 0 0 0"},
		{"up 0 0 0 100 0 9 - a; down 9 0 0 100 0 -9 - a", "", []int{992, 0, 0, 0}, "a1", "fine down 1-1(0) up 1-1(0)", "992 0 0 0"},
		{"up 9 0 0 100 0 9 - a; down 0 0 0 100 0 -9 - a", "", []int{8, 0, 0, 0}, "a1", "fine up 1-1(0) down 1-1(0)", "8 0 0 0"},
		{"up 0 0 0 100 0 9 - a; down 9 0 0 100 0 -9 - a", "", []int{8, 0, 0, 0}, "a1", "range", "8 0 0 0"},
		// What is kept out by its number adds nothing.
		{"r 0 0 5 100 2 -1 - a", "", []int{0, 0, 0, 0}, "a1=4 a1=5", "fine; range", "0 0 0 0"},
		{"r 0 0 0 5 2 1 - a", "", []int{0, 0, 1000, 0}, "a1=6 a1=5", "fine; range", "0 0 1000 0"},
		{"r 0 0 5 5 0 -1 - or plus 2 a plus 1 b", "a1=5 b2=5", []int{2, 0, 0, 0}, "c9", "fine r 1-3(0) r 2-3(1)", "0 0 0 0"},
		{"r 0 0 5 5 0 -1 - or plus 2 a plus 1 b", "a1=5 b2=4", []int{1, 0, 0, 0}, "c9", "fine r 1-3(0)", "0 0 0 0"},
		{"r 0 0 5 5 0 -1 - or plus 2 a plus 1 b", "a1=5 b2=5", []int{1, 0, 0, 0}, "c9", "range", "1 0 0 0"},
	} {
		e := engAfter(t, rulesOf(t, c.rules), evsOf(t, c.before))
		e.Keys = c.keys
		got, then := tellCalls(t, e, c.calls)
		if keys := strings.Trim(fmt.Sprint(then.Keys), "[]"); got != c.want || keys != c.then {
			t.Errorf("%s, keys %v, of %s: %s, keys %s", c.rules, c.keys, c.calls, got, keys)
		}
	}
}

// From keys of 0 on, by calls alone: a key that grows to just EngTop, by 9 times 36 of each of three rules, and once 28.
func TestEngTopByCalls(t *testing.T) {
	e := impl.EngOpen(rulesOf(t, "x 5 0 0 100 0 9 - seq a b; y 5 0 0 100 0 9 - seq a b; z 5 0 0 100 0 9 - seq a b; w 5 0 0 100 0 1 - seq c d"))
	_, e = tellCalls(t, e, "6a1 6b1 4c1 7d1")
	if !slices.Equal(e.Keys, []int{1000, 0, 0, 0}) || len(e.Fired) != 3*36+28 || len(e.Events) != 23 {
		t.Errorf("%v, %d followed, %d happened", e.Keys, len(e.Fired), len(e.Events))
	}
	holdMeant(t, e)
	for calls, want := range map[string]string{"d1": "range", "b1": "full", "c1": "fine", "d1 a1": "range; fine"} {
		if got, then := tellCalls(t, e, calls); got != want || then.Keys[0] != 1000 {
			t.Errorf("%s: %s, %v", calls, got, then.Keys)
		}
	}
}

// EvMax events and one more, and an At of EvTime and one above it, by the call itself and by what is raised in it.
func TestEngFull(t *testing.T) {
	raise := "r 0 0 0 100 0 1 c b; s 0 0 0 100 1 1 d c; w 0 0 0 100 2 1 - d"
	for _, c := range []struct {
		before []impl.Ev
		calls  string
		want   string
	}{
		{row(23), "a1 a1", "fine; full"},
		{row(24), "a1", "full"},
		{row(24), "b1", "full"},
		{row(21), "b1 a1", "fine r 22-22(21) s 23-23(22) w 24-24(23); full"},
		{row(22), "b1 c1 a1", "full; fine s 23-23(22) w 24-24(23); full"},
		{row(23), "b1 c1 d1 a1", "full; full; fine w 24-24(23); full"},
		{evsOf(t, "a980"), "a20 a1", "fine; full"},
		{evsOf(t, "a981"), "a20 a19 a1", "full; fine; full"},
		{evsOf(t, "a985"), "a15 a1", "fine; full"},
		{evsOf(t, "a985"), "a16 d15 a20", "full; fine w 1000-1000(1); full"},
		{evsOf(t, "a999"), "a2 a20 a1 a1", "full; full; fine; full"},
		{evsOf(t, "a1000"), "a1", "full"},
		{evsOf(t, "a1000"), "e20", "full"},
		{evsOf(t, "a990"), "b8 a1", "fine r 998-998(1) s 999-999(2) w 1000-1000(3); full"},
		{evsOf(t, "a990"), "b9 c9 a1", "full; fine s 999-999(1) w 1000-1000(2); full"},
		{evsOf(t, "a990"), "b10 c10 d10 a1", "full; full; fine w 1000-1000(1); full"},
		{evsOf(t, "a990"), "d11 c11 b11 a11 a10", "full; full; full; full; fine"},
	} {
		e := engAfter(t, rulesOf(t, raise), c.before)
		if got, _ := tellCalls(t, e, c.calls); got != c.want {
			t.Errorf("%s, then %s: %s, want %s", impl.EvsText(c.before), c.calls, got, c.want)
		}
	}
	// Six that are raised are just as many as there is room for, or one too many.
	for before, want := range map[int]int{16: 0, 17: 0, 18: 2, 22: 2, 23: 2} {
		events := row(before)
		for i := range 6 {
			events[i].Sym = 1
		}
		e := engAfter(t, rulesOf(t, "r 0 0 0 100 0 1 c seq b d"), events)
		if _, code, _ := holdCall(t, e, 3, 1, 0); code != want {
			t.Errorf("%d before: %s", before, codes[code])
		}
	}
}

// A graph that is Full by a step, with the call itself and with what is raised in it, whether anything follows of it or not.
func TestEngGraphFull(t *testing.T) {
	spaced := ""
	for i := range 21 {
		spaced += fmt.Sprintf("a%d ", 1+10*i)
	}
	for _, c := range []struct {
		rules, before, calls, want string
	}{
		{"r 0 0 0 100 0 1 - or seq a b c", "", "6a1 6b1 4c1 c1 d1 c1 e1", "full; fine; full; fine"},
		{"r 0 0 0 100 0 1 - seq a b", "", "4a1 9b1 b1 c1 b1", "fine" + firesOfRow("r", 4, 14) + "; fine; full"},
		{"r 0 0 100 100 0 1 - seq a b", "", "4a1 9b1 b1 c1 b1 b1", "fine; fine; full; full"},
		{"r 0 0 0 100 0 1 - and e seq a b", "", "5a1 7b1 b1 c1 b1", "fine; fine; full"},
		{"r 0 1 0 100 0 1 - seq a b", "", "5a1 7b1 b1 c1 b1", "fine r 5-13(4,12); fine; fine r 5-15(4,14)"},
		// By what is raised.
		{"r 0 0 100 100 0 1 - seq a b; s 0 0 0 100 1 1 b c", "", "4a1 9b1 b1 c1 e1", "fine; full; fine"},
		{"r 0 0 100 100 0 1 - seq a b; s 9 0 0 100 1 1 d c; u 0 0 0 100 1 1 b d", "", "4a1 8b1 c1 c1 d1 e1", "fine s 13-13(12) u 14-14(13); fine s 16-16(15) u 17-17(16); full; fine"},
		// By what is due ahead of a call.
		{"r 0 0 100 100 0 1 - or plus 2 a plus 3 a", spaced, "b1 b1 b1", "fine; full; full"},
		{"r 0 0 100 100 0 1 - or plus 2 a plus 3 a", spaced, "b2 b1", "full; fine"},
		{"r 0 0 100 100 0 1 - or plus 2 a plus 3 a", spaced, "b20", "full"},
		{"r 0 0 100 100 0 1 - or plus 3 a plus 4 a; s 0 0 0 100 1 1 d b", spaced, "b1 c1 e1", "fine s 202-202(21); full; full"},
		{"r 0 0 100 100 0 1 - or plus 3 a plus 4 a; s 0 0 0 100 1 1 d b; u 0 0 0 100 1 1 e d", spaced, "b1 c1 d1", "full; fine; full"},
		// One of several, whichever it is.
		{"x 9 0 0 100 0 1 - a; y 8 0 100 100 1 1 - seq a b; z 7 0 0 100 2 1 - b", "", "4a1 9b1 b1 b1 a1", "fine z 14-14(13); full; fine x 15-15(14)"},
		{"z 7 0 0 100 2 1 - b; x 0 0 0 100 0 1 - a; y 8 0 100 100 1 1 - seq a b", "", "4a1 9b1 b1 b1 a1", "fine z 14-14(13); full; fine x 15-15(14)"},
	} {
		e := engAfter(t, rulesOf(t, c.rules), evsOf(t, strings.TrimSpace(c.before)))
		got, _ := tellCalls(t, e, c.calls)
		many := strings.Count(c.want, ";") + 1
		all := strings.Split(got, "; ")
		if last := strings.Join(all[len(all)-many:], "; "); last != c.want {
			t.Errorf("%s, %s: %s, want %s", c.rules, c.calls, last, c.want)
		}
	}
}

// Two faults at once: the one that comes first is told.
func TestEngTwoFaults(t *testing.T) {
	// By the next b: 7 are found of seq d b, and 41 or more of seq a b.
	much := evsOf(t, "a1 a2 a3 a4 b5 b6 b7 b8 b9 b10 b11 b12 b13 b14 d15 d16 d17 d18 d19 d20 d21")
	deep, full, short := " 0 0 100 0 0 c seq d b", " 0 100 100 1 1 - seq a b", " 0 0 100 2 -1 - b"
	seven, six := evsOf(t, "a1 a2 a3 a4 a5 a6 a7"), evsOf(t, "a1 a2 a3 a4 a5 a6")
	for _, c := range []struct {
		rules  string
		before []impl.Ev
		keys   []int
		call   string
		want   int
	}{
		// Of several rules by their order.
		{"x 9" + deep + "; y 5" + full, much, nil, "b1", 1},
		{"x 5" + deep + "; y 9" + full, much, nil, "b1", 2},
		{"x 5" + deep + "; y 5" + full, much, nil, "b1", 1},
		{"y 5" + full + "; x 5" + deep, much, nil, "b1", 2},
		{"x 9" + deep + "; y 5" + short, much, nil, "b1", 1},
		{"x 5" + deep + "; y 9" + short, much, nil, "b1", 3},
		{"y 5" + short + "; x 5" + deep, much, nil, "b1", 3},
		{"x 9" + full + "; y 5" + short, much, nil, "b1", 2},
		{"x 5" + full + "; y 9" + short, much, nil, "b1", 3},
		{"x 1" + full + "; y 2" + short + "; z 3" + deep, much, nil, "b1", 1},
		{"x 1" + full + "; y 3" + short + "; z 2" + deep, much, nil, "b1", 3},
		{"x 3" + full + "; y 1" + short + "; z 2" + deep, much, nil, "b1", 2},
		// Of one that follows: the key ahead of what is raised. Of several, the first that ends badly.
		{"r 0 0 0 100 0 1 c seq a b", seven, []int{993, 0, 0, 0}, "b1", 1},
		{"r 0 0 0 100 0 1 c seq a b", seven, []int{994, 0, 0, 0}, "b1", 3},
		{"r 0 0 0 100 0 1 c seq a b", seven, []int{995, 0, 0, 0}, "b1", 3},
		{"r 0 0 0 100 0 -1 c seq a b", seven, []int{7, 0, 0, 0}, "b1", 1},
		{"r 0 0 0 100 0 -1 c seq a b", seven, []int{6, 0, 0, 0}, "b1", 3},
		// A graph that is Full finds nothing by which a key could be too much.
		{"r 0 0 0 100 0 -1 c seq a b", much, nil, "b1", 2},
		{"r 0 0 0 100 0 1 c seq a b", much, []int{1000, 0, 0, 0}, "b1", 2},
		// All that follows of one event does so ahead of what it raised.
		{"r 9 0 0 100 0 1 c seq a b; s 9 0 0 100 1 -1 - c", seven, nil, "b1", 1},
		{"r 9 0 0 100 0 1 c seq a b; s 9 0 0 100 1 -1 - c", six, nil, "b1", 3},
		{"r 9 0 0 100 0 1 c seq a b; s 0 0 0 100 1 -1 - b", six, nil, "b1", 3},
		{"r 9 0 0 100 0 1 c seq a b; s 0 0 0 100 1 1 - c; w 0 0 0 100 1 1 e c", six, nil, "b1", 1},
		{"r 0 0 0 100 0 1 c b; s 9 0 0 100 1 -1 - d; w 9 0 0 100 1 0 d b", six, nil, "b1", 3},
		// An event for which there is no room, and what follows of the one ahead.
		{"r 0 0 0 100 0 1 c seq a b", row(23), []int{990, 0, 0, 0}, "b1", 1},
		{"r 0 0 0 100 0 1 c seq a b", row(23), []int{996, 0, 0, 0}, "b1", 3},
		{"r 0 1 0 100 0 1 c seq a b", row(23), nil, "b1", 2},
		{"r 0 1 0 100 0 -1 c seq a b", row(23), nil, "b1", 3},
		{"r 0 0 0 100 0 1 c seq a b", row(24), nil, "b1", 2},
		{"r 0 0 0 100 0 -1 c seq a b", row(24), nil, "b1", 2},
		{"r 0 0 0 100 0 -1 c b", evsOf(t, "a999"), nil, "b1", 3},
		{"r 0 0 0 100 0 -1 c b", evsOf(t, "a999"), nil, "b2", 2},
		{"r 0 0 0 100 0 1 c b; s 0 0 0 100 1 -1 - c", evsOf(t, "a999"), nil, "b1", 2},
		{"r 0 0 0 100 0 1 c b; s 0 0 0 100 1 -1 - c", evsOf(t, "a998"), nil, "b1", 3},
		{"r 0 0 0 100 0 1 b b", evsOf(t, "a995"), nil, "b1", 2},
		{"r 0 0 0 100 0 1 b b", evsOf(t, "a994"), nil, "b1", 2},
		{"r 0 0 0 100 0 1 b b", evsOf(t, "a993"), nil, "b1", 1},
		{"r 0 0 0 100 0 1 b b", evsOf(t, "a992"), nil, "b1", 1},
	} {
		e := engAfter(t, rulesOf(t, c.rules), c.before)
		if c.keys != nil {
			e.Keys = c.keys
		}
		call := evsOf(t, c.call)[0]
		if _, code, _ := holdCall(t, e, call.Sym, call.At, call.Val); code != c.want {
			t.Errorf("%s, keys %v, %s behind %s: %s, want %s", c.rules, c.keys, c.call, impl.EvsText(c.before), codes[code], codes[c.want])
		}
		// What is wrong by itself is told ahead of all.
		for _, wrong := range [][3]int{{5, call.At, 0}, {1, 0, 0}, {1, 21, 0}, {1, call.At, 101}} {
			if _, code, _ := holdCall(t, e, wrong[0], wrong[1], wrong[2]); code != 4 {
				t.Errorf("%s, call %v: %s", c.rules, wrong, codes[code])
			}
		}
	}
}

// Sym, gap and val at their bounds and one past them.
func TestEngForm(t *testing.T) {
	engines := []impl.Eng{impl.EngOpen(nil), impl.EngOpen(rulesOf(t, "r 5 0 0 100 0 1 - or a plus 2 e; s 5 0 0 100 0 1 - b")), someEngine(t)}
	numbers := []int{-1, 0, 1, 2, 4, 5, 19, 20, 21, 99, 100, 101}
	for _, e := range engines {
		for _, sym := range append(numbers, farNumbers...) {
			for _, gap := range append(numbers, farNumbers...) {
				for _, val := range append(numbers, farNumbers...) {
					ok := sym >= 0 && sym <= 4 && gap >= 1 && gap <= 20 && val >= 0 && val <= 100
					next, code, fired := impl.EngCall(e, sym, gap, val)
					if (code == 4) == ok || !ok && (len(fired) != 0 || !impl.EngSame(next, e)) {
						t.Fatalf("EngCall(%d, %d, %d) = %d, %v", sym, gap, val, code, fired)
					}
				}
			}
		}
		for _, call := range [][3]int{{-1, 1, 0}, {5, 1, 0}, {0, 0, 0}, {0, 21, 0}, {0, 1, -1}, {0, 1, 101}, {0, 1, 0}, {4, 1, 0}, {0, 20, 0}, {0, 1, 100}, {5, 21, 101}, {-1, 0, -1}} {
			holdCall(t, e, call[0], call[1], call[2])
		}
	}
	for name, e := range wrongEngines(t) {
		for _, call := range [][3]int{{0, 1, 0}, {5, 1, 0}, {0, 0, 0}, {0, 21, 0}, {0, 1, 101}, {-1, 0, -1}, {4, 20, 100}} {
			next, code, fired := impl.EngCall(e, call[0], call[1], call[2])
			if textEng(next) != textEng(impl.Eng{}) || code != 4 || len(fired) != 0 {
				t.Errorf("%s: %s, %d, %v", name, textEng(next), code, fired)
			}
		}
	}
}

// someEngine is an engine that is ok, came by calls, and of which much followed.
func someEngine(t *testing.T) impl.Eng {
	t.Helper()
	e := impl.EngOpen(rulesOf(t, "up 5 0 0 100 1 2 c seq a b; see 7 0 5 9 0 3 - or c a; late 1 2 0 100 2 3 - plus 20 a; down 5 3 0 100 1 -1 - not a d c"))
	for _, call := range evsCalls(t, "a1=3 b2=7 a3=6 b1 d1 a2=5 c15=8") {
		next, code, _ := holdCall(t, e, call.Sym, call.At, call.Val)
		if code != 0 {
			t.Fatalf("%v: %s", call, codes[code])
		}
		e = next
	}
	if len(e.Fired) < 8 || len(e.Events) < 9 {
		t.Fatalf("an engine of little: %s", textEng(e))
	}
	return e
}

// engChange is one change of someEngine, and whether it is ok then.
type engChange struct {
	name   string
	ok     bool
	change func(e *impl.Eng)
}

// engChanges is each condition of EngOk, broken alone, at its bounds and past them.
func engChanges(t *testing.T) []engChange {
	var list []engChange
	add := func(ok bool, change func(e *impl.Eng), name ...any) {
		list = append(list, engChange{fmt.Sprint(name...), ok, change})
	}
	base := someEngine(t)
	for name, r := range wrongRules() {
		for place := range base.Rules {
			add(false, func(e *impl.Eng) { e.Rules[place] = r }, "rule ", place, " ", name)
		}
	}
	for place := range base.Rules {
		add(true, func(e *impl.Eng) { e.Rules[place] = middle() }, "rule ", place, " is another one")
		add(place == 1, func(e *impl.Eng) { e.Rules[place].Name = "see" }, "rule ", place, " is named as another one")
		add(false, func(e *impl.Eng) { e.Rules = slices.Delete(e.Rules, place, place+1) }, "rule ", place, " is not there")
		add(false, func(e *impl.Eng) { e.Graphs = slices.Delete(e.Graphs, place, place+1) }, "graph ", place, " is not there")
		add(false, func(e *impl.Eng) { e.Graphs = append(e.Graphs, e.Graphs[place]) }, "graph ", place, " is there once more")
	}
	add(false, func(e *impl.Eng) { e.Rules = append(e.Rules, plain("more", 1)) }, "five rules, four graphs")
	add(false, func(e *impl.Eng) {
		e.Rules, e.Graphs = append(e.Rules, plain("more", 1)), append(e.Graphs, e.Graphs[0])
	}, "five rules, five graphs")
	add(false, func(e *impl.Eng) { e.Rules, e.Graphs = e.Rules[:3], e.Graphs[:3] }, "three rules, and what followed of four")
	add(true, func(e *impl.Eng) { e.Rules, e.Graphs, e.Fired = e.Rules[:3], e.Graphs[:3], nil }, "three rules, and nothing followed")
	add(false, func(e *impl.Eng) { e.Rules, e.Graphs = nil, nil }, "no rules, and what followed of four")
	add(true, func(e *impl.Eng) { e.Rules, e.Graphs, e.Fired = nil, nil, nil }, "no rules, and nothing followed")
	add(false, func(e *impl.Eng) { e.Graphs, e.Fired = nil, nil }, "no graphs")
	add(false, func(e *impl.Eng) { e.Rules, e.Fired = nil, nil }, "no rules, four graphs")
	list = append(list, engGraphChanges(t, base)...)
	list = append(list, engEventChanges(t, base)...)
	return append(list, engNumberChanges(base)...)
}

// engGraphChanges is what is right and wrong of the graphs.
func engGraphChanges(t *testing.T, base impl.Eng) []engChange {
	var list []engChange
	for place := range base.Graphs {
		add := func(ok bool, change func(g *impl.Graph), name ...any) {
			list = append(list, engChange{fmt.Sprint(append([]any{"graph ", place, " "}, name...)...), ok, func(e *impl.Eng) { change(&e.Graphs[place]) }})
		}
		seen, now := len(base.Events), lastAt(base.Events)
		add(false, func(g *impl.Graph) { g.Full = true }, "Full")
		for _, by := range []int{-1, 1, 256, -seen, 24 - seen, math.MinInt} {
			add(by == 0, func(g *impl.Graph) { g.Seen += by }, "Seen by ", by)
		}
		for _, by := range []int{-1, 1, -now, 1000 - now, 1 << 32} {
			add(by == 0, func(g *impl.Graph) { g.Now += by }, "Now by ", by)
			add(by == 0, func(g *impl.Graph) {
				g.Now += by
				for i := range g.Nodes {
					g.Nodes[i].Due = nil
				}
			}, "nothing due, Now by ", by)
		}
		for mode, ok := range map[int]bool{-1: false, 0: true, 4: true, 5: false} {
			add(ok, func(g *impl.Graph) { g.Mode = mode }, "Mode ", mode)
		}
		add(false, func(g *impl.Graph) { *g = impl.Graph{} }, "nothing")
		add(false, func(g *impl.Graph) { g.Nodes = nil }, "no nodes")
		add(false, func(g *impl.Graph) { g.Nodes, g.Full = nil, true }, "no nodes, Full")
		add(false, func(g *impl.Graph) { g.Nodes[0].Kind = 8 }, "a node of no kind")
		add(false, func(g *impl.Graph) { g.Nodes[0].Sym = 5 }, "a node of no letter")
		add(true, func(g *impl.Graph) { g.Nodes[0].Many = 40 }, "a node that was found 40 times")
		add(false, func(g *impl.Graph) { g.Nodes[0].Many = 41 }, "a node that was found 41 times")
		add(true, func(g *impl.Graph) { g.Nodes[0].Pair.Left = inARow(1, 40) }, "40 wait")
		add(false, func(g *impl.Graph) { g.Nodes[0].Pair.Right = inARow(1, 41) }, "41 wait")
		add(false, func(g *impl.Graph) { g.Nodes[0].Span.Mid = []impl.Occ{{}} }, "nothing in the middle")
		add(false, func(g *impl.Graph) { g.Nodes[0].Due = []impl.Occ{occ(1, now+1, 0)} }, "a letter is due")
		add(true, func(g *impl.Graph) {
			*g = impl.GraphOf(exOf(t, "or seq a b plus 3 c"), 3)
			g.Seen, g.Now = seen, now
		}, "of what no rule looks for")
	}
	return list
}

// engEventChanges is what is right and wrong of what happened.
func engEventChanges(t *testing.T, base impl.Eng) []engChange {
	var list []engChange
	add := func(ok bool, change func(e *impl.Eng), name ...any) {
		list = append(list, engChange{fmt.Sprint(name...), ok, change})
	}
	// graphs sees to it that they saw just what happened, and that nothing followed.
	graphs := func(e *impl.Eng) {
		e.Fired = nil
		for i := range e.Graphs {
			e.Graphs[i] = impl.GraphOf(e.Rules[i].Ex, e.Rules[i].Mode)
			e.Graphs[i].Seen, e.Graphs[i].Now = len(e.Events), lastAt(e.Events)
		}
	}
	for name, events := range wrongEvs(t) {
		add(false, func(e *impl.Eng) { e.Events = events }, "events: ", name)
		add(false, func(e *impl.Eng) { e.Events = events; graphs(e) }, "events and graphs: ", name)
	}
	for _, n := range []int{0, 1, 23, 24, 25} {
		add(n < 25, func(e *impl.Eng) { e.Events = row(n); graphs(e) }, "so many events and graphs: ", n)
		add(false, func(e *impl.Eng) { e.Events = row(n) }, "so many events: ", n)
	}
	last := len(base.Events) - 1
	add(false, func(e *impl.Eng) { e.Events = e.Events[:last] }, "an event fewer")
	add(false, func(e *impl.Eng) { e.Events = append(e.Events, impl.Ev{At: lastAt(e.Events) + 1}) }, "an event more")
	add(false, func(e *impl.Eng) { e.Events[last].At++ }, "the last is later")
	add(false, func(e *impl.Eng) { e.Events[last].At-- }, "the last is sooner")
	add(true, func(e *impl.Eng) { e.Events[last-1].At++ }, "the last but one is later")
	add(false, func(e *impl.Eng) { e.Events[1].At = e.Events[0].At }, "two at once")
	for place := range base.Events {
		for val, ok := range map[int]bool{-1: false, 0: true, 100: true, 101: false} {
			add(ok, func(e *impl.Eng) { e.Events[place].Val = val }, "Val ", val, " at ", place)
		}
		for sym, ok := range map[int]bool{-1: false, 0: true, 4: true, 5: false} {
			add(ok, func(e *impl.Eng) { e.Events[place].Sym = sym }, "Sym ", sym, " at ", place)
		}
	}
	return list
}

// engNumberChanges is what is right and wrong of keys and of what followed.
func engNumberChanges(base impl.Eng) []engChange {
	var list []engChange
	add := func(ok bool, change func(e *impl.Eng), name ...any) {
		list = append(list, engChange{fmt.Sprint(name...), ok, change})
	}
	for many, ok := range map[int]bool{0: false, 1: false, 3: false, 4: true, 5: false, 100: false} {
		add(ok, func(e *impl.Eng) { e.Keys = make([]int, many) }, "so many keys: ", many)
	}
	add(false, func(e *impl.Eng) { e.Keys = nil }, "nil keys")
	for key := range base.Keys {
		for n, ok := range map[int]bool{-1: false, 0: true, 1: true, 999: true, 1000: true, 1001: false, math.MinInt: false, math.MaxInt: false, 1 << 32: false} {
			add(ok, func(e *impl.Eng) { e.Keys[key] = n }, "key ", key, " is ", n)
		}
	}
	add(true, func(e *impl.Eng) { e.Fired = nil }, "nothing followed")
	add(true, func(e *impl.Eng) { e.Fired = append(e.Fired, e.Fired...) }, "all followed twice")
	add(true, func(e *impl.Eng) {
		for range 200 {
			e.Fired = append(e.Fired, e.Fired[3])
		}
	}, "one followed 200 times")
	events := len(base.Events)
	for place := range base.Fired {
		for n, ok := range map[int]bool{-1: false, 0: true, 3: true, 4: false, math.MinInt: false, math.MaxInt: false} {
			add(ok, func(e *impl.Eng) { e.Fired[place].Rule = n }, "rule ", n, " followed at ", place)
		}
		for id, ok := range map[int]bool{-1: false, 0: true, events - 1: true, events: false, 23: false, 24: false, math.MinInt: false, math.MaxInt: false} {
			add(ok, func(e *impl.Eng) { e.Fired[place].Occ = occ(1, 5, id) }, "of ", id, " at ", place)
			add(ok && id > 1, func(e *impl.Eng) { e.Fired[place].Occ = occ(1, 5, 0, 1, id) }, "of 0, 1, ", id, " at ", place)
		}
		for i, o := range wrongOccs() {
			add(false, func(e *impl.Eng) { e.Fired[place].Occ = o }, "wrong place ", i, " at ", place)
		}
		add(true, func(e *impl.Eng) { e.Fired[place].Occ = occ(2000, 2000, 0) }, "the last place at ", place)
		add(true, func(e *impl.Eng) { e.Fired = slices.Delete(e.Fired, place, place+1) }, "what followed at ", place, " is not there")
	}
	return list
}

// changedEng is someEngine, changed.
func changedEng(base impl.Eng, c engChange) impl.Eng {
	e := copiedEng(base)
	c.change(&e)
	return e
}

// wrongEngines is engines that are not ok.
func wrongEngines(t *testing.T) map[string]impl.Eng {
	t.Helper()
	list := map[string]impl.Eng{"nothing": {}, "one full": {Keys: make([]int, 4), Graphs: []impl.Graph{{Full: true}}}}
	base := someEngine(t)
	for _, c := range engChanges(t) {
		if !c.ok {
			list[c.name] = changedEng(base, c)
		}
	}
	return list
}

// EngOk, with each of its conditions broken alone; and each function at what is no engine.
func TestEngOk(t *testing.T) {
	base := someEngine(t)
	if !holdEng(t, "some engine", base) || holdEng(t, "nothing", impl.Eng{}) {
		t.Error("some engine is none, or nothing is one")
	}
	right, wrong := 0, 0
	for _, c := range engChanges(t) {
		e := changedEng(base, c)
		if okEng(e) != c.ok {
			t.Fatalf("%s: the model says %v", c.name, !c.ok)
		}
		if got := holdEng(t, c.name, e); got != c.ok {
			t.Errorf("%s: %v", c.name, got)
		}
		if c.ok {
			right++
			holdCall(t, e, 0, 3, 5)
			holdCall(t, e, 2, 20, 6)
		} else {
			wrong++
		}
	}
	if right < 100 || wrong < 300 {
		t.Errorf("%d are ok, %d are not", right, wrong)
	}
}

// someRules is rules that are ok, made by a source with a fixed start, so that much follows and little ends badly.
func someRules(r *rand.Rand) []impl.Rule {
	small := smallExs()
	var list []impl.Rule
	for i := range r.Intn(5) {
		one := impl.Rule{Name: []string{"a", "up", "xyz", "b"}[i], Pri: r.Intn(3) * 4, Mode: r.Intn(5), Ex: someLook(r), High: 100, Key: r.Intn(4), Add: r.Intn(5), Raise: -1}
		if r.Intn(2) == 0 {
			one.Ex = small[r.Intn(len(small))]
		}
		if r.Intn(3) == 0 {
			one.Low = r.Intn(4)
			one.High = one.Low + r.Intn(3)
		}
		if r.Intn(8) == 0 {
			one.Add = -1 - r.Intn(2)
		}
		if r.Intn(2) == 0 {
			one.Raise = r.Intn(5)
		}
		list = append(list, one)
	}
	return list
}

// engParts is someEngine, each time changed in one part alone, or in order alone.
func engParts(base impl.Eng) map[string]impl.Eng {
	list := map[string]impl.Eng{}
	add := func(name string, change func(e *impl.Eng)) {
		e := copiedEng(base)
		change(&e)
		list[name] = e
	}
	add("rules in another order", func(e *impl.Eng) { e.Rules[0], e.Rules[3] = e.Rules[3], e.Rules[0] })
	add("graphs in another order", func(e *impl.Eng) { e.Graphs[1], e.Graphs[2] = e.Graphs[2], e.Graphs[1] })
	add("events in another order", func(e *impl.Eng) { e.Events[0], e.Events[1] = e.Events[1], e.Events[0] })
	add("keys in another order", func(e *impl.Eng) { e.Keys[0], e.Keys[3] = e.Keys[3], e.Keys[0] })
	add("fired in another order", func(e *impl.Eng) { e.Fired[1], e.Fired[2] = e.Fired[2], e.Fired[1] })
	add("no rules", func(e *impl.Eng) { e.Rules = nil })
	add("no graphs", func(e *impl.Eng) { e.Graphs = nil })
	add("no events", func(e *impl.Eng) { e.Events = nil })
	add("no keys", func(e *impl.Eng) { e.Keys = nil })
	add("nothing fired", func(e *impl.Eng) { e.Fired = nil })
	for place := range base.Rules {
		for _, part := range ruleParts() {
			add(fmt.Sprint("rule ", place, " ", part.name), func(e *impl.Eng) { *part.of(&e.Rules[place])++ })
		}
		add(fmt.Sprint("rule ", place, " Name"), func(e *impl.Eng) { e.Rules[place].Name += "x" })
		add(fmt.Sprint("rule ", place, " Ex"), func(e *impl.Eng) { e.Rules[place].Ex = leaf(4) })
	}
	for place := range base.Graphs {
		for name, change := range map[string]func(g *impl.Graph){
			"Mode": func(g *impl.Graph) { g.Mode++ }, "Seen": func(g *impl.Graph) { g.Seen++ }, "Now": func(g *impl.Graph) { g.Now-- }, "Full": func(g *impl.Graph) { g.Full = true },
			"Many": func(g *impl.Graph) { g.Nodes[0].Many++ }, "a node fewer": func(g *impl.Graph) { g.Nodes = g.Nodes[1:] }, "a node more": func(g *impl.Graph) { g.Nodes = append(g.Nodes, impl.Node{}) },
			"Pair": func(g *impl.Graph) { g.Nodes[0].Pair.Left = inARow(1, 1) }, "Span": func(g *impl.Graph) { g.Nodes[0].Span.Mid = inARow(1, 1) }, "Due": func(g *impl.Graph) { g.Nodes[0].Due = inARow(900, 1) },
		} {
			add(fmt.Sprint("graph ", place, " ", name), func(e *impl.Eng) { change(&e.Graphs[place]) })
		}
	}
	for place := range base.Events {
		add(fmt.Sprint("event ", place, " Sym"), func(e *impl.Eng) { e.Events[place].Sym++ })
		add(fmt.Sprint("event ", place, " At"), func(e *impl.Eng) { e.Events[place].At++ })
		add(fmt.Sprint("event ", place, " Val"), func(e *impl.Eng) { e.Events[place].Val++ })
	}
	for place := range base.Keys {
		add(fmt.Sprint("key ", place), func(e *impl.Eng) { e.Keys[place]++ })
	}
	for place := range base.Fired {
		add(fmt.Sprint("fired ", place, " Rule"), func(e *impl.Eng) { e.Fired[place].Rule++ })
		add(fmt.Sprint("fired ", place, " From"), func(e *impl.Eng) { e.Fired[place].Occ.From++ })
		add(fmt.Sprint("fired ", place, " To"), func(e *impl.Eng) { e.Fired[place].Occ.To++ })
		add(fmt.Sprint("fired ", place, " Ids"), func(e *impl.Eng) { e.Fired[place].Occ.Ids[0]++ })
		add(fmt.Sprint("fired ", place, " one more of Ids"), func(e *impl.Eng) { e.Fired[place].Occ.Ids = append(e.Fired[place].Occ.Ids, 23) })
		add(fmt.Sprint("fired ", place, " left out"), func(e *impl.Eng) { e.Fired = slices.Delete(e.Fired, place, place+1) })
		add(fmt.Sprint("fired ", place, " once more"), func(e *impl.Eng) { e.Fired = append(e.Fired, e.Fired[place]) })
	}
	return list
}

// EngSame of engines that differ in one part alone, or in order alone, ok or not.
func TestEngSame(t *testing.T) {
	base := someEngine(t)
	hold := func(name string, a, b impl.Eng, want bool) {
		t.Helper()
		if impl.EngSame(a, b) != want || impl.EngSame(b, a) != want {
			t.Errorf("%s: %v, %v", name, impl.EngSame(a, b), impl.EngSame(b, a))
		}
	}
	hold("nothing", impl.Eng{}, impl.Eng{}, true)
	hold("nothing, empty", impl.Eng{}, impl.Eng{Rules: []impl.Rule{}, Graphs: []impl.Graph{}, Events: []impl.Ev{}, Keys: []int{}, Fired: []impl.Fire{}}, true)
	hold("no rules", impl.EngOpen(nil), impl.EngOpen([]impl.Rule{}), true)
	hold("nothing and no rules", impl.Eng{}, impl.EngOpen(nil), false)
	hold("in another memory", base, copiedEng(base), true)
	hold("some and nothing", base, impl.Eng{}, false)
	parts := engParts(base)
	if len(parts) < 120 {
		t.Errorf("only %d parts", len(parts))
	}
	for name, other := range parts {
		hold(name, base, other, false)
		hold(name+", itself", other, copiedEng(other), true)
	}
	for name, other := range wrongEngines(t) {
		hold(name, base, other, false)
		hold(name+", itself", other, other, true)
	}
	for _, c := range engChanges(t) {
		other := changedEng(base, c)
		hold(c.name, base, other, textEng(base) == textEng(other))
	}
}

// EngMeans of engines of which something that followed is left out, told twice, told of another rule, put ahead of another one, or has another Occ.
func TestEngMeans(t *testing.T) {
	base := someEngine(t)
	if !impl.EngMeans(base) || !impl.EngMeans(impl.EngOpen(nil)) || !impl.EngMeans(impl.EngOpen(base.Rules)) || impl.EngMeans(impl.Eng{}) {
		t.Fatal("what came by calls")
	}
	hold := func(name string, want bool, change func(e *impl.Eng)) {
		t.Helper()
		e := copiedEng(base)
		change(&e)
		if !holdEng(t, name, e) || impl.EngMeans(e) != want {
			t.Errorf("%s: EngOk %v, EngMeans %v", name, impl.EngOk(e), impl.EngMeans(e))
		}
	}
	for place, f := range base.Fired {
		hold(fmt.Sprint(place, " left out"), false, func(e *impl.Eng) { e.Fired = slices.Delete(e.Fired, place, place+1) })
		hold(fmt.Sprint(place, " twice"), false, func(e *impl.Eng) { e.Fired = slices.Insert(e.Fired, place, f) })
		hold(fmt.Sprint(place, " twice, at the end"), false, func(e *impl.Eng) { e.Fired = append(e.Fired, f) })
		hold(fmt.Sprint(place, " is the last"), false, func(e *impl.Eng) { e.Fired = e.Fired[:place] })
		for rule := range base.Rules {
			hold(fmt.Sprint(place, " of rule ", rule), rule == f.Rule, func(e *impl.Eng) { e.Fired[place].Rule = rule })
		}
		if f.Occ.From < f.Occ.To {
			hold(fmt.Sprint(place, " From"), false, func(e *impl.Eng) { e.Fired[place].Occ.From++ })
		}
		hold(fmt.Sprint(place, " To"), false, func(e *impl.Eng) { e.Fired[place].Occ.To++ })
		hold(fmt.Sprint(place, " Ids"), len(f.Occ.Ids) == 1 && f.Occ.Ids[0] == 3, func(e *impl.Eng) { e.Fired[place].Occ.Ids = []int{3} })
		hold(fmt.Sprint(place, " another Occ"), false, func(e *impl.Eng) { e.Fired[place].Occ = occ(1, 1, 1) })
		for first := range place {
			crossed := slices.ContainsFunc(base.Fired[first:place], func(other impl.Fire) bool { return other.Rule == f.Rule })
			hold(fmt.Sprint(place, " ahead of ", first), !crossed, func(e *impl.Eng) {
				e.Fired = slices.Insert(slices.Delete(e.Fired, place, place+1), first, f)
			})
		}
	}
	hold("nothing followed", false, func(e *impl.Eng) { e.Fired = nil })
	// Keys and what the graphs tell do not matter; what is in the rules and events does.
	hold("other keys", true, func(e *impl.Eng) { e.Keys = []int{1000, 0, 7, 1000} })
	hold("other graphs", true, func(e *impl.Eng) { e.Graphs[0].Nodes[0].Many, e.Graphs[1].Mode = 40, 4 })
	hold("other names", true, func(e *impl.Eng) { e.Rules[0].Name = "other" })
	hold("another Pri", true, func(e *impl.Eng) { e.Rules[0].Pri = 9 })
	hold("another Key, Add and Raise", true, func(e *impl.Eng) { e.Rules[0].Key, e.Rules[0].Add, e.Rules[0].Raise = 0, -9, -1 })
	hold("another Low", false, func(e *impl.Eng) { e.Rules[1].Low = 6 })
	hold("another High", false, func(e *impl.Eng) { e.Rules[1].High = 7 })
	hold("another Mode", false, func(e *impl.Eng) { e.Rules[0].Mode = 1 })
	hold("another Ex", false, func(e *impl.Eng) { e.Rules[1].Ex = leaf(2) })
	hold("another number", false, func(e *impl.Eng) { e.Events[3].Val = 4 })
	hold("another letter", false, func(e *impl.Eng) { e.Events[0].Sym = 4 })
	hold("another time", false, func(e *impl.Eng) { e.Events[0].At++ })
}

// What is found too often is not what is meant, even if nothing would follow of it.
func TestEngMeansTooMuch(t *testing.T) {
	for _, c := range []struct {
		rules, letters string
		want           bool
	}{
		{"r 0 0 100 100 0 1 - seq a b", "aaaabbbbbbbbbb", true},
		{"r 0 0 100 100 0 1 - seq a b", "aaaabbbbbbbbbbb", false},
		{"r 0 0 100 100 0 1 - or seq a b c", "aaaabbbbbbbbbbc", false},
		{"x 9 0 0 100 0 1 - d; r 0 0 100 100 0 1 - seq a b", "aaaabbbbbbbbbbb", false},
		{"r 9 0 100 100 0 1 - seq a b; x 0 0 0 100 0 1 - d", "aaaabbbbbbbbbbb", false},
		{"r 9 0 100 100 0 1 - seq a b; x 0 0 0 100 0 1 - d", "aaaabbbbbbbbbb", true},
	} {
		e := impl.Eng{Rules: rulesOf(t, c.rules), Events: manyEvents(c.letters), Keys: make([]int, 4)}
		for _, r := range e.Rules {
			g := impl.GraphOf(r.Ex, r.Mode)
			g.Seen, g.Now = len(e.Events), lastAt(e.Events)
			e.Graphs = append(e.Graphs, g)
		}
		if !holdEng(t, c.letters, e) || impl.EngMeans(e) != c.want {
			t.Errorf("%s of %s: EngOk %v, EngMeans %v", c.rules, c.letters, impl.EngOk(e), impl.EngMeans(e))
		}
	}
}

// EngSum: keys that several rules have, Adds below 0, and what followed more than once.
func TestEngSum(t *testing.T) {
	rules := rulesOf(t, "x 9 0 0 100 1 5 - a; y 0 0 0 100 1 -7 - b; z 5 0 0 100 3 9 - c; w 5 0 0 100 3 0 - d")
	for fired, want := range map[string][]int{
		"": {0, 0, 0, 0}, "0": {0, 5, 0, 0}, "1": {0, -7, 0, 0}, "2": {0, 0, 0, 9}, "3": {0, 0, 0, 0},
		"01": {0, -2, 0, 0}, "10": {0, -2, 0, 0}, "001": {0, 3, 0, 0}, "23": {0, 0, 0, 9}, "0123": {0, -2, 0, 9}, "333": {0, 0, 0, 0}, "222210000": {0, 13, 0, 36},
		strings.Repeat("2", 300): {0, 0, 0, 2700}, strings.Repeat("1", 300): {0, -2100, 0, 0},
	} {
		for _, keys := range [][]int{{0, 0, 0, 0}, {1, 2, 3, 4}, {1000, 1000, 1000, 1000}} {
			e := engAfter(t, rules, evsOf(t, "a1 b2 c3"))
			e.Keys = keys
			for _, rule := range fired {
				e.Fired = append(e.Fired, impl.Fire{Rule: int(rule - '0'), Occ: occ(1, 1, 0)})
			}
			if !holdEng(t, fired, e) || !slices.Equal(impl.EngSum(e), want) {
				t.Errorf("EngSum of %q = %v, want %v", fired, impl.EngSum(e), want)
			}
			e.Fired = append(e.Fired, impl.Fire{Rule: 4, Occ: occ(1, 1, 0)})
			if len(impl.EngSum(e)) != 0 {
				t.Errorf("EngSum of what is not ok = %v", impl.EngSum(e))
			}
		}
	}
}

// P9: many rules and many calls. Behind each call that is fine, what followed is what is meant; behind any other one all is as it was.
func TestEngAllThatIsMeantFollowsOrNothing(t *testing.T) {
	r := rand.New(rand.NewSource(92))
	var ended [5]int
	fires, raised := 0, 0
	for range 1600 {
		e := impl.EngOpen(someRules(r))
		var all []impl.Fire
		letters := 2 + r.Intn(4)
		for range r.Intn(31) {
			sym, gap, val := r.Intn(letters), 1+r.Intn(3), r.Intn(7)
			switch r.Intn(40) {
			case 0:
				sym, gap, val = r.Intn(8)-1, r.Intn(23), []int{-1, 100, 101}[r.Intn(3)]
			case 1, 2, 3:
				gap = 1 + r.Intn(20)
			}
			then, thenCode, thenFired := callModel(findsByMeaning, e, sym, gap, val)
			next, code, fired := holdCall(t, e, sym, gap, val)
			if code != thenCode || textFires(fired) != textFires(thenFired) || !same(next.Events, then.Events) || !slices.Equal(next.Keys, then.Keys) {
				t.Fatalf("%d, %d, %d: %d, %s, meant %d, %s: %s", sym, gap, val, code, textFires(fired), thenCode, textFires(thenFired), textEng(e))
			}
			all = append(all, fired...)
			if textFires(all) != textFires(next.Fired) {
				t.Fatalf("followed %s, in all %s", textFires(all), textFires(next.Fired))
			}
			if code == 0 {
				raised += len(next.Events) - len(e.Events) - 1
			}
			holdMeant(t, next)
			ended[code]++
			fires += len(fired)
			e = next
		}
	}
	for code, many := range ended {
		if many < 300 {
			t.Errorf("only %d calls ended %s: %v", many, codes[code], ended)
		}
	}
	if fires < 5000 || raised < 1500 {
		t.Errorf("only %d followed, %d were raised", fires, raised)
	}
}

// someEng is an engine that is ok, made by hand likewise: its graphs may find anything, even what did not happen.
func someEng(r *rand.Rand) impl.Eng {
	e := impl.Eng{Rules: someRules(r), Events: someHappened(r), Keys: []int{r.Intn(9), 0, 1000, 1000 - r.Intn(9)}}
	if r.Intn(2) == 0 {
		e.Events = e.Events[:len(e.Events)/2]
	}
	if r.Intn(20) == 0 {
		for i := range e.Events {
			e.Events[i].At += 999 - lastAt(e.Events)
		}
	}
	now := lastAt(e.Events)
	for range e.Rules {
		g := someGraph(r)
		for place := range g.Nodes {
			n := &g.Nodes[place]
			for i := range n.Due {
				n.Due[i].To += now - g.Now
			}
		}
		g.Seen, g.Now = len(e.Events), now
		e.Graphs = append(e.Graphs, g)
	}
	for range min(r.Intn(4), len(e.Rules), len(e.Events)) {
		e.Fired = append(e.Fired, impl.Fire{Rule: r.Intn(len(e.Rules)), Occ: occ(1, 1+r.Intn(9), r.Intn(len(e.Events)))})
	}
	return e
}

// Whatever engine is handed in, a call does what the document says of each rule in its turn.
func TestEngSomeCalls(t *testing.T) {
	r := rand.New(rand.NewSource(93))
	var ended [5]int
	none := 0
	for range 2500 {
		e := someEng(r)
		if !okEng(e) {
			t.Fatalf("made a wrong engine: %s", textEng(e))
		}
		for range 3 {
			holdEng(t, "some engine", e)
			next, code, _ := holdCall(t, e, r.Intn(3), r.Intn(25), r.Intn(7))
			if !okEng(next) {
				none++
			}
			ended[code]++
			e = next
		}
	}
	for code, many := range ended {
		if many < 50 {
			t.Errorf("only %d calls ended %s: %v", many, codes[code], ended)
		}
	}
	if none < 20 {
		t.Errorf("only %d were no engine then", none)
	}
}

// engMemory is all lists of an engine.
func engMemory(name string, e impl.Eng) []memory {
	parts := append(ruleMemory(name+" rules", e.Rules), fireMemory(name+" fired", e.Fired)...)
	for place, g := range e.Graphs {
		parts = append(parts, graphMemory(fmt.Sprint(name, " graph ", place), g)...)
	}
	graphs, events := e.Graphs[:cap(e.Graphs)], e.Events[:cap(e.Events)]
	graphText := func() string {
		var words []string
		for _, g := range graphs {
			words = append(words, fmt.Sprint(g.Mode, g.Seen, g.Now, g.Full, len(g.Nodes)))
		}
		return strings.Join(words, ",")
	}
	parts = append(parts, memory{name + " graphs", graphText, func() {
		for i := range graphs {
			graphs[i] = impl.Graph{Mode: -9}
		}
	}})
	parts = append(parts, memory{name + " events", func() string { return fmt.Sprint(events) }, func() {
		for i := range events {
			events[i] = impl.Ev{Sym: -9, At: -9, Val: -9}
		}
	}})
	return append(parts, idMemory(name+" keys", e.Keys))
}

// fireMemory is the list of what followed, and the Ids of each.
func fireMemory(name string, list []impl.Fire) []memory {
	var parts []memory
	for i, f := range list {
		parts = append(parts, idMemory(fmt.Sprint(name, " Ids ", i), f.Occ.Ids))
	}
	list = list[:cap(list)]
	text := func() string {
		var numbers []int
		for _, f := range list {
			numbers = append(numbers, f.Rule, f.Occ.From, f.Occ.To, len(f.Occ.Ids))
		}
		return fmt.Sprint(numbers)
	}
	return append(parts, memory{name, text, func() {
		for i := range list {
			list[i] = impl.Fire{Rule: -9}
		}
	}})
}

// roomyEng is the same engine, of which each list has spare room that is not empty.
func roomyEng(e impl.Eng) impl.Eng {
	e = copiedEng(e)
	e.Rules = roomyRules(e.Rules)
	for i := range e.Graphs {
		e.Graphs[i] = roomy(e.Graphs[i])
	}
	for i := range e.Fired {
		ids := e.Fired[i].Occ.Ids
		e.Fired[i].Occ.Ids = append(ids, 7, 8, 9)[:len(ids)]
	}
	e.Graphs = append(e.Graphs, impl.Graph{Mode: 70}, impl.Graph{Mode: 71})[:len(e.Graphs)]
	e.Events = append(e.Events, impl.Ev{At: 70}, impl.Ev{At: 71})[:len(e.Events)]
	e.Keys = append(e.Keys, 70, 71)[:len(e.Keys)]
	e.Fired = append(e.Fired, impl.Fire{Rule: 70}, impl.Fire{Rule: 71})[:len(e.Fired)]
	return e
}

// memoryEngines is engines that are ok, of few and of many rules, at which something waits and is due, and one that is not.
func memoryEngines(t *testing.T) []impl.Eng {
	t.Helper()
	list := []impl.Eng{{}, impl.EngOpen(nil), someEngine(t)}
	for _, c := range [][2]string{
		{"r 0 0 0 100 0 1 c a", ""},
		{"r 0 0 0 100 0 1 c or a seq a b", "a1 b1 a1"},
		{"r 5 0 0 100 0 1 - and seq b a plus 2 seq b a; s 5 2 0 100 1 1 c not a c b; u 9 4 0 100 2 1 e each b a c", "b1 a1 b2 a1"},
	} {
		e := impl.EngOpen(rulesOf(t, c[0]))
		_, e = tellCalls(t, e, c[1])
		list = append(list, e)
	}
	wrong := copiedEng(list[len(list)-1])
	wrong.Keys[3] = -1
	return append(list, wrong)
}

// A call writes into nothing that was handed in, nor behind its end, and what it tells shares no memory with it, nor one list of it with another one, however it ends.
func TestEngMemory(t *testing.T) {
	var ended [5]int
	for _, e := range memoryEngines(t) {
		low := copiedEng(e)
		for i := range low.Rules {
			low.Rules[i].Add = -9
		}
		for _, e := range []impl.Eng{e, low} {
			for _, call := range [][3]int{{0, 1, 7}, {1, 2, 7}, {2, 9, 5}, {5, 1, 0}} {
				holdApart(t, func() []memory {
					in := roomyEng(e)
					lists := engMemory("the engine handed in", in)
					before := texts(lists)
					next, code, fired := impl.EngCall(in, call[0], call[1], call[2])
					if !slices.Equal(texts(lists), before) {
						t.Fatalf("%s is changed by %v: %s", textEng(e), call, textEng(in))
					}
					ended[code]++
					lists = append(lists, engMemory("the engine", next)...)
					return append(lists, fireMemory("followed", fired)...)
				})
			}
		}
	}
	for _, code := range []int{0, 3, 4} {
		if ended[code] < 500 {
			t.Errorf("only %d ended %s", ended[code], codes[code])
		}
	}
}

// Opening writes into nothing, and shares nothing; so do all that are asked of an engine.
func TestEngAskedWritesNothing(t *testing.T) {
	for _, rules := range memoryRules() {
		holdApart(t, func() []memory {
			in := roomyRules(rules)
			lists := ruleMemory("the rules handed in", in)
			before := texts(lists)
			a, b := impl.EngOpen(in), impl.EngOpen(in)
			if !slices.Equal(texts(lists), before) {
				t.Fatalf("%v is changed: %v", rules, in)
			}
			for i := range a.Rules {
				if unsafe.StringData(a.Rules[i].Name) == unsafe.StringData(in[i].Name) {
					t.Fatalf("%s: the name is that which was handed in", in[i].Name)
				}
			}
			return append(append(lists, engMemory("a", a)...), engMemory("b", b)...)
		})
	}
	for _, e := range memoryEngines(t) {
		holdApart(t, func() []memory {
			a, b := roomyEng(e), roomyEng(e)
			lists := append(engMemory("a", a), engMemory("b", b)...)
			before := texts(lists)
			impl.EngOk(a)
			impl.EngMeans(a)
			impl.EngSame(a, b)
			sum, again := impl.EngSum(a), impl.EngSum(a)
			if !slices.Equal(texts(lists), before) {
				t.Fatalf("%s is changed", textEng(e))
			}
			return append(lists, idMemory("sum", sum), idMemory("sum again", again))
		})
	}
}

// Nothing is kept between two calls: an engine that was called can be called again, in turn with others, as often as one likes, and all is as at first.
func TestEngKeepsNothing(t *testing.T) {
	engines := append(memoryEngines(t), impl.EngOpen(rulesOf(t, "r 0 0 0 100 0 1 a a")), impl.EngOpen(rulesOf(t, "r 0 0 0 100 0 -1 - b; s 9 0 0 100 0 1 c b")))
	var first []string
	for turn := range 6 {
		var all []string
		for _, e := range engines {
			for sym := range 3 {
				next, code, fired := holdCall(t, e, sym, 1+sym, 7)
				all = append(all, fmt.Sprint(textEng(next), code, textFires(fired)))
			}
		}
		if turn == 0 {
			first = all
		}
		if !slices.Equal(all, first) {
			t.Fatalf("turn %d: %v, at first %v", turn, all, first)
		}
	}
}
