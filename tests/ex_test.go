package tests

import (
	"fmt"
	"math"
	"math/rand"
	"slices"
	"strconv"
	"strings"
	"testing"

	"loop.example/bellman/impl"
)

// exWord and exKids are the document's table of kinds, by Kind.
var (
	exWord = []string{"", "", "or", "and", "seq", "not", "each", "plus"}
	exKids = []int{0, 0, 2, 2, 2, 3, 3, 1}
)

// leaf is a letter.
func leaf(sym int) impl.Ex { return impl.Ex{Kind: impl.ExSym, Sym: sym} }

// node is a part with kids.
func node(kind int, kids ...impl.Ex) impl.Ex { return impl.Ex{Kind: kind, Kids: kids} }

// plus is something n later.
func plus(n int, kid impl.Ex) impl.Ex {
	return impl.Ex{Kind: impl.ExPlus, N: n, Kids: []impl.Ex{kid}}
}

// leaves is n letters.
func leaves(n int) []impl.Ex {
	var list []impl.Ex
	for i := range n {
		list = append(list, leaf(i%5))
	}
	return list
}

// least is the smallest part of a kind, with kids that are letters.
func least(kind int) impl.Ex {
	x := node(kind, leaves(exKids[kind])...)
	if kind == impl.ExPlus {
		x.N = 1
	}
	return x
}

// copied is the same in memory of its own.
func copied(x impl.Ex) impl.Ex {
	kids := x.Kids
	x.Kids = nil
	for _, kid := range kids {
		x.Kids = append(x.Kids, copied(kid))
	}
	return x
}

// sameEx holds two against each other without the program's help.
func sameEx(a, b impl.Ex) bool {
	if a.Kind != b.Kind || a.Sym != b.Sym || a.N != b.N || len(a.Kids) != len(b.Kids) {
		return false
	}
	for i := range a.Kids {
		if !sameEx(a.Kids[i], b.Kids[i]) {
			return false
		}
	}
	return true
}

// sizeEx is how many parts there are, and how many of them are around one another at most.
func sizeEx(x impl.Ex) (many int, deep int) {
	many = 1
	for _, kid := range x.Kids {
		m, d := sizeEx(kid)
		many += m
		deep = max(deep, d)
	}
	return many, deep + 1
}

// partsRight says whether each part is one of the table, whatever the size.
func partsRight(x impl.Ex) bool {
	if x.Kind < 1 || x.Kind > 7 || len(x.Kids) != exKids[x.Kind] {
		return false
	}
	if x.Kind == 1 && (x.Sym < 0 || x.Sym > 4) || x.Kind != 1 && x.Sym != 0 {
		return false
	}
	if x.Kind == 7 && (x.N < 1 || x.N > 20) || x.Kind != 7 && x.N != 0 {
		return false
	}
	for _, kid := range x.Kids {
		if !partsRight(kid) {
			return false
		}
	}
	return true
}

// deeper says whether more than so many are around one another. It ends even where a list of kids holds itself.
func deeper(x impl.Ex, deep int) bool {
	return deep == 0 || slices.ContainsFunc(x.Kids, func(kid impl.Ex) bool { return deeper(kid, deep-1) })
}

// okEx is ExOk, told otherwise.
func okEx(x impl.Ex) bool {
	if deeper(x, 5) {
		return false
	}
	many, _ := sizeEx(x)
	return many <= 12 && partsRight(x)
}

// textEx is the text of what has a text, told otherwise: from the kids on.
func textEx(x impl.Ex) string {
	text := "abcde"[x.Sym : x.Sym+1]
	if x.Kind != 1 {
		text = exWord[x.Kind]
	}
	if x.Kind == 7 {
		text += " " + strconv.Itoa(x.N)
	}
	for _, kid := range x.Kids {
		text += " " + textEx(kid)
	}
	return text
}

// symsEx is ExSyms, told otherwise.
func symsEx(x impl.Ex) []int {
	var syms []int
	text := " " + textEx(x) + " "
	for sym := range 5 {
		if strings.Contains(text, " "+"abcde"[sym:sym+1]+" ") {
			syms = append(syms, sym)
		}
	}
	return syms
}

// readBackwards reads a text in another way than the program does: from its last word to its first, with a stack.
func readBackwards(text string) (impl.Ex, bool) {
	if len(text) > 300 {
		return impl.Ex{}, false
	}
	var stack []impl.Ex // a number is a part of Kind 0
	words := strings.Split(text, " ")
	slices.Reverse(words)
	for _, w := range words {
		x := impl.Ex{Kind: slices.Index(exWord, w)}
		n, err := strconv.Atoi(w)
		switch {
		case len(w) == 1 && strings.Contains("abcde", w):
			x = leaf(strings.Index("abcde", w))
		case err == nil && strconv.Itoa(n) == w && n >= 1 && n <= 20:
			x = impl.Ex{N: n}
		case x.Kind < 2:
			return impl.Ex{}, false
		}
		if x.Kind == 7 {
			if len(stack) == 0 || stack[len(stack)-1].Kind != 0 {
				return impl.Ex{}, false
			}
			x.N = stack[len(stack)-1].N
			stack = stack[:len(stack)-1]
		}
		for range exKids[x.Kind] {
			if len(stack) == 0 || stack[len(stack)-1].Kind == 0 {
				return impl.Ex{}, false
			}
			x.Kids = append(x.Kids, stack[len(stack)-1])
			stack = stack[:len(stack)-1]
		}
		stack = append(stack, x)
	}
	if len(stack) != 1 || stack[0].Kind == 0 || !okEx(stack[0]) {
		return impl.Ex{}, false
	}
	return stack[0], true
}

// holdReadEx holds what the program reads from a text against what readBackwards does.
func holdReadEx(t *testing.T, text string) {
	t.Helper()
	want, wantOk := readBackwards(text)
	got, ok := impl.ExRead(text)
	if ok != wantOk || !sameEx(got, want) {
		t.Fatalf("ExRead(%q) = %v, %v; want %v, %v", text, got, ok, want, wantOk)
	}
}

// holdOk holds all that the program says of what is ok against what is told otherwise.
func holdOk(t *testing.T, x impl.Ex) {
	t.Helper()
	text := textEx(x)
	many, _ := sizeEx(x)
	if !impl.ExOk(x) || impl.ExText(x) != text || impl.ExMany(x) != many || !slices.Equal(impl.ExSyms(x), symsEx(x)) {
		t.Fatalf("%q: %v, %q, %d, %v", text, impl.ExOk(x), impl.ExText(x), impl.ExMany(x), impl.ExSyms(x))
	}
	got, ok := impl.ExRead(text)
	if !ok || !sameEx(got, x) || !impl.ExSame(got, x) {
		t.Fatalf("ExRead(%q) = %v, %v", text, got, ok)
	}
}

// holdWrong asks for the fixed answers to what is not ok.
func holdWrong(t *testing.T, name string, x impl.Ex) {
	t.Helper()
	if impl.ExOk(x) || impl.ExText(x) != "" || impl.ExMany(x) != 0 || len(impl.ExSyms(x)) != 0 {
		t.Errorf("%s: %v, %q, %d, %v", name, impl.ExOk(x), impl.ExText(x), impl.ExMany(x), impl.ExSyms(x))
	}
}

// inside is something in the place of each leaf of a bigger part, one by one.
func inside(x impl.Ex) []impl.Ex {
	return []impl.Ex{
		node(impl.ExSeq, x, leaf(1)), node(impl.ExSeq, leaf(1), x),
		node(impl.ExNot, x, leaf(1), leaf(2)), node(impl.ExNot, leaf(1), x, leaf(2)), node(impl.ExEach, leaf(1), leaf(2), x),
		plus(3, x), plus(3, node(impl.ExOr, leaf(1), x)), node(impl.ExAnd, plus(2, leaf(0)), plus(2, x)),
	}
}

// towers is every way to put n parts around a letter: each kind, and each place among the kids.
func towers(n int) []impl.Ex {
	if n == 0 {
		return []impl.Ex{leaf(4)}
	}
	var list []impl.Ex
	for _, x := range towers(n - 1) {
		list = append(list, plus(20, x))
		for kind := impl.ExOr; kind <= impl.ExEach; kind++ {
			for place := range exKids[kind] {
				kids := leaves(exKids[kind])
				kids[place] = x
				list = append(list, node(kind, kids...))
			}
		}
	}
	return list
}

func TestExBounds(t *testing.T) {
	if impl.ExSize != 12 || impl.ExDeep != 5 || impl.ExTime != 20 {
		t.Error("bounds of the document")
	}
	for i, kind := range []int{impl.ExSym, impl.ExOr, impl.ExAnd, impl.ExSeq, impl.ExNot, impl.ExEach, impl.ExPlus} {
		if kind != i+1 {
			t.Error("kinds of the document")
		}
	}
}

func TestExNothing(t *testing.T) {
	holdWrong(t, "nothing", impl.Ex{})
	holdWrong(t, "nothing, its kids made", impl.Ex{Kids: []impl.Ex{}})
}

func TestExUnknownKind(t *testing.T) {
	for _, kind := range []int{-1, 0, 8, 9, 12, 257, 1 << 32, 1<<32 + 1, math.MinInt, math.MaxInt} {
		for many := range 5 {
			for _, n := range []int{0, 1} {
				x := impl.Ex{Kind: kind, N: n, Kids: leaves(many)}
				name := fmt.Sprintf("Kind %d, N %d, %d kids", kind, n, many)
				holdWrong(t, name, x)
				for _, around := range inside(x) {
					holdWrong(t, name+", inside", around)
				}
			}
		}
	}
}

// Each kind with as many kids as it has, and with all others.
func TestExKids(t *testing.T) {
	for kind := impl.ExSym; kind <= impl.ExPlus; kind++ {
		for many := range 14 {
			x := least(kind)
			x.Kids = leaves(many)
			if many == exKids[kind] {
				holdOk(t, x)
				continue
			}
			name := fmt.Sprintf("Kind %d of %d kids", kind, many)
			holdWrong(t, name, x)
			for _, around := range inside(x) {
				holdWrong(t, name+", inside", around)
			}
		}
	}
}

// Each kind with each Sym and N, where they should be, and where there should be none.
func TestExNumbers(t *testing.T) {
	numbers := []int{-21, -20, -1, 0, 1, 2, 3, 4, 5, 6, 19, 20, 21, 22, 100, 256, 257, 1 << 32, 1<<32 + 1, math.MinInt, math.MaxInt}
	for kind := impl.ExSym; kind <= impl.ExPlus; kind++ {
		for _, sym := range numbers {
			for _, n := range numbers {
				x := least(kind)
				x.Sym, x.N = sym, n
				ok := sym == 0 && n == 0
				switch kind {
				case impl.ExSym:
					ok = sym >= 0 && sym <= 4 && n == 0
				case impl.ExPlus:
					ok = sym == 0 && n >= 1 && n <= 20
				}
				if ok {
					holdOk(t, x)
					continue
				}
				name := fmt.Sprintf("Kind %d, Sym %d, N %d", kind, sym, n)
				holdWrong(t, name, x)
				for _, around := range inside(x) {
					holdWrong(t, name+", inside", around)
				}
			}
		}
	}
}

func TestExSize(t *testing.T) {
	each := least(impl.ExEach)
	not := least(impl.ExNot)
	or := least(impl.ExOr)
	for name, x := range map[string]impl.Ex{
		"by three kids": node(impl.ExNot, each, not, or),
		"small first":   node(impl.ExEach, or, each, not),
		"by two kids":   node(impl.ExSeq, node(impl.ExAnd, or, or), plus(1, or)),
		"a plus ahead":  plus(1, node(impl.ExSeq, node(impl.ExAnd, or, or), or)),
	} {
		holdOk(t, x)
		if impl.ExMany(x) != 12 {
			t.Errorf("%s: %d", name, impl.ExMany(x))
		}
	}
	for name, x := range map[string]impl.Ex{
		"13 by three kids": node(impl.ExNot, each, each, not),
		"13 by a plus":     plus(1, node(impl.ExNot, each, not, or)),
		"13, plus at last": node(impl.ExNot, each, not, node(impl.ExOr, leaf(0), plus(1, leaf(0)))),
		"13, plus at once": node(impl.ExNot, node(impl.ExEach, plus(1, leaf(0)), leaf(0), leaf(0)), not, or),
		"15 by two kids":   node(impl.ExSeq, node(impl.ExAnd, or, or), node(impl.ExAnd, or, or)),
		"40 by three kids": node(impl.ExNot, node(impl.ExNot, not, not, not), node(impl.ExNot, not, not, not), node(impl.ExNot, not, not, not)),
	} {
		if many, deep := sizeEx(x); many < 13 || deep > 5 {
			t.Fatalf("%s: %d parts, %d deep", name, many, deep)
		}
		holdWrong(t, name, x)
	}
}

func TestExDeep(t *testing.T) {
	for around := range 7 {
		list := towers(min(around, 4))
		if around > 4 { // all ways would be too many, and a part is as deep in one as in another
			list = nil
			for _, x := range towers(2) {
				for range around - 2 {
					x = plus(1, x)
				}
				list = append(list, x)
			}
			for _, x := range towers(around - 4) {
				list = append(list, plus(1, node(impl.ExOr, leaf(0), plus(20, node(impl.ExAnd, x, leaf(3))))))
			}
		}
		for _, x := range list {
			many, deep := sizeEx(x)
			switch {
			case deep != around+1:
				t.Fatalf("%d deep, want %d", deep, around+1)
			case around <= 4 && many <= 12:
				holdOk(t, x)
			default:
				holdWrong(t, fmt.Sprintf("%d parts, %d around one", many, around), x)
			}
		}
	}
}

// A list that holds itself, one that is held by many, and one that is very deep or wide: the answer comes all the same.
func TestExEndless(t *testing.T) {
	for kind := impl.ExOr; kind <= impl.ExPlus; kind++ {
		x := least(kind)
		for place := range x.Kids {
			kids := leaves(exKids[kind])
			x.Kids = kids
			kids[place] = x
			holdWrong(t, "a list that holds itself", x)
			if !impl.ExSame(x, x) || !impl.ExSame(x, kids[place]) || !impl.ExSame(x, kids[place].Kids[place]) {
				t.Errorf("Kind %d, place %d: not the same as itself", kind, place)
			}
			twin := x
			twin.Kids = slices.Clone(kids)
			twin.Kids[place].Kids = twin.Kids
			if !impl.ExSame(x, twin) || !impl.ExSame(twin, x) {
				t.Errorf("Kind %d, place %d: not the same as its twin", kind, place)
			}
			twin.Kids[place].N++
			if impl.ExSame(x, twin) || impl.ExSame(twin, x) || impl.ExSame(x, leaf(0)) || impl.ExSame(leaf(0), x) {
				t.Errorf("Kind %d, place %d: the same as another one", kind, place)
			}
		}
	}
}

// A list that holds itself, against one that does so only behind some parts, or that ends there.
func TestExEndlessUnrolled(t *testing.T) {
	ring := func(n int) impl.Ex { // n parts, one in the other, the last of which holds the first
		first := plus(1, leaf(0))
		x := first
		for range n - 1 {
			x = plus(1, x)
		}
		first.Kids[0] = x
		return x
	}
	if !impl.ExSame(ring(2), ring(3)) || !impl.ExSame(ring(1), ring(7)) || !impl.ExSame(plus(1, ring(4)), ring(5)) {
		t.Error("the same without end")
	}
	ends := leaf(0)
	for range 1000 {
		ends = plus(1, ends)
	}
	if impl.ExSame(ring(3), ends) || impl.ExSame(ends, ring(3)) || impl.ExSame(ring(3), plus(2, ring(3))) {
		t.Error("one ends, or begins otherwise")
	}
	// One list, of which more or less is taken.
	kids := leaves(3)
	a := node(impl.ExOr, node(impl.ExOr, kids[:2]...), node(impl.ExOr, kids...))
	b := node(impl.ExOr, node(impl.ExOr, kids[:2]...), node(impl.ExOr, kids...))
	c := node(impl.ExOr, node(impl.ExOr, kids[:2]...), node(impl.ExOr, append(kids[:2:2], leaf(4))...))
	if !impl.ExSame(a, b) || impl.ExSame(a, c) || impl.ExSame(c, a) {
		t.Error("pieces of one list")
	}
	d, e := leaves(4), leaves(4)
	e[3].Sym = 0
	f := node(impl.ExOr, node(impl.ExOr, d[:3]...), node(impl.ExOr, d...))
	g := node(impl.ExOr, node(impl.ExOr, e[:3]...), node(impl.ExOr, e...))
	h := node(impl.ExOr, node(impl.ExOr, d...), node(impl.ExOr, d[:3]...))
	k := node(impl.ExOr, node(impl.ExOr, e...), node(impl.ExOr, e[:3]...))
	if impl.ExSame(f, g) || impl.ExSame(g, f) || impl.ExSame(h, k) || impl.ExSame(k, h) {
		t.Error("a beginning is the same, the whole is not")
	}
}

func TestExHuge(t *testing.T) {
	shared := func(last impl.Ex) impl.Ex { // of more parts than could be gone through one by one
		x := last
		for range 80 {
			x = node(impl.ExOr, x, x)
		}
		return x
	}
	holdWrong(t, "held by many", shared(leaf(0)))
	if !impl.ExSame(shared(leaf(0)), shared(leaf(0))) || impl.ExSame(shared(leaf(0)), shared(leaf(1))) {
		t.Error("held by many")
	}
	deep := func(last impl.Ex) impl.Ex {
		x := last
		for range 300000 {
			x = plus(1, x)
		}
		return x
	}
	holdWrong(t, "deep", deep(leaf(0)))
	if !impl.ExSame(deep(leaf(0)), deep(leaf(0))) || impl.ExSame(deep(leaf(0)), deep(leaf(1))) {
		t.Error("deep")
	}
	for kind := -1; kind <= 8; kind++ {
		wide := node(kind, leaves(300000)...)
		other := node(kind, leaves(300000)...)
		holdWrong(t, "wide", wide)
		if !impl.ExSame(wide, other) {
			t.Error("wide")
		}
		other.Kids[299999].Sym = 7
		if impl.ExSame(wide, other) {
			t.Error("wide, the last another one")
		}
	}
}

func TestExSame(t *testing.T) {
	base := node(impl.ExNot, leaf(0), plus(5, leaf(1)), node(impl.ExSeq, leaf(2), leaf(0)))
	wrong := impl.Ex{Kind: -3, Sym: 77, N: -1, Kids: []impl.Ex{{}, {Kind: 9}, leaf(8)}}
	none := leaf(3)
	none.Kids = []impl.Ex{}
	for name, c := range map[string]struct {
		a, b impl.Ex
		want bool
	}{
		"nothing":             {impl.Ex{}, impl.Ex{}, true},
		"nil and empty":       {leaf(3), none, true},
		"itself":              {base, base, true},
		"in another memory":   {base, copied(base), true},
		"wrong ones":          {wrong, copied(wrong), true},
		"nothing and a":       {impl.Ex{}, leaf(0), false},
		"a and b":             {leaf(0), leaf(1), false},
		"two of no letter":    {leaf(-1), leaf(5), false},
		"or and and":          {least(impl.ExOr), least(impl.ExAnd), false},
		"not and each":        {least(impl.ExNot), least(impl.ExEach), false},
		"another number":      {plus(1, leaf(0)), plus(2, leaf(0)), false},
		"two wrong numbers":   {plus(0, leaf(0)), plus(21, leaf(0)), false},
		"another order":       {node(impl.ExOr, leaf(0), leaf(1)), node(impl.ExOr, leaf(1), leaf(0)), false},
		"a kid more":          {node(impl.ExOr, leaves(2)...), node(impl.ExOr, leaves(3)...), false},
		"kids and none":       {base, node(impl.ExNot), false},
		"its own kid":         {plus(1, base), base, false},
		"otherwise held":      {node(impl.ExSeq, node(impl.ExSeq, leaf(0), leaf(1)), leaf(2)), node(impl.ExSeq, leaf(0), node(impl.ExSeq, leaf(1), leaf(2))), false},
		"a Sym where none is": {node(impl.ExOr, leaves(2)...), impl.Ex{Kind: impl.ExOr, Sym: 1, Kids: leaves(2)}, false},
		"an N where none is":  {leaf(0), impl.Ex{Kind: impl.ExSym, N: 1}, false},
		"a kid of a letter":   {leaf(0), node(impl.ExSym, leaf(0)), false},
	} {
		if impl.ExSame(c.a, c.b) != c.want || impl.ExSame(c.b, c.a) != c.want {
			t.Errorf("%s: want %v", name, c.want)
		}
	}
}

// One number changed, or one kid left out or put in, wherever it is: then it is another one.
func TestExSameAllParts(t *testing.T) {
	base := node(impl.ExNot, leaf(0), plus(5, leaf(1)), node(impl.ExSeq, leaf(2), plus(5, leaf(1))))
	many, _ := sizeEx(base)
	for place := range many {
		for what, change := range []func(x *impl.Ex){
			func(x *impl.Ex) { x.Kind++ }, func(x *impl.Ex) { x.Sym-- }, func(x *impl.Ex) { x.N += 1 << 32 },
			func(x *impl.Ex) { x.Kids = append(x.Kids, impl.Ex{}) }, func(x *impl.Ex) { x.Kids = append([]impl.Ex{leaf(0)}, x.Kids...) },
		} {
			other := copied(base)
			left := place
			var find func(x *impl.Ex)
			find = func(x *impl.Ex) {
				if left == 0 {
					change(x)
				}
				left--
				for i := range x.Kids {
					if left >= 0 {
						find(&x.Kids[i])
					}
				}
			}
			find(&other)
			if impl.ExSame(base, other) || impl.ExSame(other, base) || !impl.ExSame(other, copied(other)) {
				t.Errorf("part %d, change %d", place, what)
			}
		}
	}
}

func TestExTells(t *testing.T) {
	for _, c := range []struct {
		text string
		x    impl.Ex
		many int
		syms []int
	}{
		{"a", leaf(0), 1, []int{0}},
		{"e", leaf(4), 1, []int{4}},
		{"or a b", node(impl.ExOr, leaf(0), leaf(1)), 3, []int{0, 1}},
		{"and d c", node(impl.ExAnd, leaf(3), leaf(2)), 3, []int{2, 3}},
		{"seq e e", node(impl.ExSeq, leaf(4), leaf(4)), 3, []int{4}},
		{"not c b a", node(impl.ExNot, leaf(2), leaf(1), leaf(0)), 4, []int{0, 1, 2}},
		{"each a e a", node(impl.ExEach, leaf(0), leaf(4), leaf(0)), 4, []int{0, 4}},
		{"plus 1 a", plus(1, leaf(0)), 2, []int{0}},
		{"plus 9 b", plus(9, leaf(1)), 2, []int{1}},
		{"plus 10 c", plus(10, leaf(2)), 2, []int{2}},
		{"plus 20 d", plus(20, leaf(3)), 2, []int{3}},
		{"not a plus 5 b seq c a", node(impl.ExNot, leaf(0), plus(5, leaf(1)), node(impl.ExSeq, leaf(2), leaf(0))), 7, []int{0, 1, 2}},
		{"plus 1 plus 2 plus 3 plus 4 e", plus(1, plus(2, plus(3, plus(4, leaf(4))))), 5, []int{4}},
		{"or or e d or c or b a", node(impl.ExOr, node(impl.ExOr, leaf(4), leaf(3)), node(impl.ExOr, leaf(2), node(impl.ExOr, leaf(1), leaf(0)))), 9, []int{0, 1, 2, 3, 4}},
		{"not each a b c not a b c or a b", node(impl.ExNot, least(impl.ExEach), least(impl.ExNot), least(impl.ExOr)), 12, []int{0, 1, 2}},
		{"each plus 20 plus 20 plus 20 d plus 20 plus 20 d plus 20 plus 20 plus 20 d", node(impl.ExEach, plus(20, plus(20, plus(20, leaf(3)))), plus(20, plus(20, leaf(3))), plus(20, plus(20, plus(20, leaf(3))))), 12, []int{3}},
	} {
		if got := impl.ExText(c.x); got != c.text {
			t.Errorf("ExText = %q, want %q", got, c.text)
		}
		if impl.ExMany(c.x) != c.many || !slices.Equal(impl.ExSyms(c.x), c.syms) {
			t.Errorf("%q: %d, %v", c.text, impl.ExMany(c.x), impl.ExSyms(c.x))
		}
		if got, ok := impl.ExRead(c.text); !ok || !sameEx(got, c.x) {
			t.Errorf("ExRead(%q) = %v, %v", c.text, got, ok)
		}
		holdOk(t, c.x)
		holdReadEx(t, c.text)
	}
}

func TestExReadRefuses(t *testing.T) {
	for _, text := range []string{
		// no words, or none that is known
		"", " ", "  ", "\n", "\t", "\x00", "f", "A", "`", "?", "aa", "ab", "1", "0", "5", "20", "-", "sym", "OR a b", "Or a b", "xor a b", "o a b", "orr a b", "plus5 a", "plus 5a", "notabc",
		// too few kids, and too many
		"or", "or a", "or a b c", "and a", "seq a", "seq a b c", "not a b", "not a b c d", "each a b", "each a b c d", "plus 1", "plus 1 a b", "a b", "a a", "or a or b", "or or a b", "seq a b seq", "a or a b",
		// a space too many or too few, or something else in its place
		" a", "a ", "or  a b", "or a  b", " or a b", "or a b ", "or ab", "ora b", "orab", "or\ta b", "or a\tb", "or\na b", "or a b\n", "a\n", "or a,b", "or(a b)", "plus  1 a", "plus 1  a", "plus 1 a ", "plus1 a", "plus 1a", "or a\u00a0b", "or a\x00b", "or a b\x00",
		// a number that is none of a plus, or where there is no plus
		"plus 0 a", "plus 21 a", "plus 22 a", "plus 99 a", "plus 100 a", "plus a", "plus a a", "plus plus 1 a", "plus a 1", "plus -1 a", "plus +1 a", "plus 1.0 a", "plus 0x1 a", "plus 1_0 a", "plus 1e1 a", "plus 1x a", "plus x1 a", "plus \u0661 a", "plus \uff11 a",
		"plus 4294967297 a", "plus 18446744073709551617 a", "plus 18446744073709551636 a", "plus 340282366920938463463374607431768211457 a", "plus 99999999999999999999 a",
		"or 1 a b", "or a 1", "1 a", "a 1", "seq 1 2", "not 1 a b c", "plus 1 1 a", "plus 1 1", "plus 1 2 a",
		// needless zeros
		"plus 01 a", "plus 001 a", "plus 00 a", "plus 020 a", "plus 010 a", "plus  a", "plus 5 plus 05 a",
		// too deep, and too many
		"plus 1 plus 1 plus 1 plus 1 plus 1 a", "or a or a or a or a or a a", "or or or or or a a a a a a", "seq a not a b not a b not a b plus 1 plus 1 c",
		"each each a b c each a b c each a b c", "plus 1 not each a b c not a b c or a b", "seq and or a b or a b and or a b or a b",
		// something wrong in the middle
		"or a f", "seq f a", "not a plus 0 b c", "not a plus 21 b c", "each a b plus c", "or a \xff", "or \xe1 b", "\xffa", "a\xff", "\u00e4", "\uff41", "or \u0430 b",
	} {
		if got, ok := impl.ExRead(text); ok || !sameEx(got, impl.Ex{}) {
			t.Errorf("ExRead(%q) = %v, %v", text, got, ok)
		}
		holdReadEx(t, text)
	}
}

// No text of something that is ok comes near 300 bytes, so those of 300 and of more are refused alike.
func TestExReadLong(t *testing.T) {
	heads := []string{"", "a", "a ", "or a b", "or a b ", "or a ", "plus ", "plus 1", "plus 1 ", "plus 1 a", "not each a b c not a b c or a b"}
	for _, size := range []int{299, 300, 301, 302, 1000, 1 << 20} {
		for name, piece := range map[string]string{"spaces": " ", "digits": "1", "zeros": "0", "letters": "a", "words": "a ", "ors": "or ", "nots": "not ", "pluses": "plus 1 ", "bytes": "\xff"} {
			for _, head := range heads {
				text := head + strings.Repeat(piece, size)[:size-len(head)]
				if got, ok := impl.ExRead(text); ok || !sameEx(got, impl.Ex{}) {
					t.Errorf("%d bytes, %s behind %q: %v, %v", size, name, head, got, ok)
				}
			}
		}
	}
	// All parts right, but too many, in just 300 bytes and in more.
	for text, size := range map[string]int{
		strings.Repeat("or a ", 57) + "plus 1 plus 1 a":                          300,
		strings.Repeat("or ", 57) + strings.Repeat("a ", 57) + "plus 1 plus 1 a": 300,
		strings.Repeat("or a ", 57) + "plus 10 plus 1 a":                         301,
		strings.Repeat("or a ", 60) + "a":                                        301,
		strings.Repeat("or ", 100000) + strings.Repeat("a ", 100000) + "a":       500001,
	} {
		if got, ok := impl.ExRead(text); len(text) != size || ok || !sameEx(got, impl.Ex{}) {
			t.Errorf("%d bytes, want %d: %v, %v", len(text), size, got, ok)
		}
	}
}

// allOfSize is all that is ok of up to so many parts, by how many they are.
func allOfSize(most int) [][]impl.Ex {
	all := make([][]impl.Ex, most+1)
	for sym := range 5 {
		all[1] = append(all[1], leaf(sym))
	}
	for many := 2; many <= most; many++ {
		for n := 1; n <= 20; n++ {
			for _, kid := range all[many-1] {
				all[many] = append(all[many], plus(n, kid))
			}
		}
		for first := 1; first < many-1; first++ {
			for _, a := range all[first] {
				for _, b := range all[many-1-first] {
					all[many] = append(all[many], node(impl.ExOr, a, b), node(impl.ExAnd, a, b), node(impl.ExSeq, a, b))
				}
			}
			for second := 1; second < many-1-first; second++ {
				for _, a := range all[first] {
					for _, b := range all[second] {
						for _, c := range all[many-1-first-second] {
							all[many] = append(all[many], node(impl.ExNot, a, b, c), node(impl.ExEach, a, b, c))
						}
					}
				}
			}
		}
	}
	return all
}

// P2: all that is small is read from its text as it was, and no two have one text.
func TestExEachIsReadAsItWas(t *testing.T) {
	texts := map[string]bool{}
	many := 0
	for _, list := range allOfSize(4) {
		for _, x := range list {
			holdOk(t, x)
			texts[impl.ExText(x)] = true
			many++
		}
	}
	if many != len(texts) || many != 5+100+2075+44750 {
		t.Errorf("%d, %d texts", many, len(texts))
	}
}

// someEx is right in each of its parts, made by a source with a fixed start; of any size, at most so deep.
func someEx(r *rand.Rand, deep int) impl.Ex {
	if deep <= 1 || r.Intn(4) == 0 {
		return leaf(r.Intn(5))
	}
	kind := 2 + r.Intn(6)
	x := impl.Ex{Kind: kind}
	if kind == impl.ExPlus {
		x.N = 1 + r.Intn(20)
	}
	for range exKids[kind] {
		x.Kids = append(x.Kids, someEx(r, deep-1))
	}
	return x
}

// P2: and so is what is greater; what is too great or too deep has no text, and its text would not be read.
func TestExAreReadAsTheyWere(t *testing.T) {
	r := rand.New(rand.NewSource(3))
	sizes := map[int]int{}
	wrong := 0
	for range 60000 {
		x := someEx(r, 1+r.Intn(7))
		many, deep := sizeEx(x)
		if okEx(x) {
			sizes[many]++
			holdOk(t, x)
			holdReadEx(t, textEx(x))
			continue
		}
		wrong++
		holdWrong(t, fmt.Sprintf("%d parts, %d deep", many, deep), x)
		if got, ok := impl.ExRead(textEx(x)); ok || !sameEx(got, impl.Ex{}) {
			t.Fatalf("%q: %v, %v", textEx(x), got, ok)
		}
	}
	for many := 1; many <= 12; many++ {
		if sizes[many] < 100 {
			t.Errorf("only %d of %d parts", sizes[many], many)
		}
	}
	if wrong < 1000 {
		t.Errorf("only %d wrong", wrong)
	}
}

// One number or list of something that is ok, changed at random.
func TestExWrongSomewhere(t *testing.T) {
	r := rand.New(rand.NewSource(4))
	numbers := []int{-1, 0, 1, 2, 4, 5, 7, 8, 20, 21, math.MinInt, math.MaxInt}
	for range 60000 {
		x := someEx(r, 4)
		part := &x
		for len(part.Kids) > 0 && r.Intn(3) > 0 {
			part = &part.Kids[r.Intn(len(part.Kids))]
		}
		switch r.Intn(5) {
		case 0:
			part.Kind = numbers[r.Intn(len(numbers))]
		case 1:
			part.Sym = numbers[r.Intn(len(numbers))]
		case 2:
			part.N = numbers[r.Intn(len(numbers))]
		case 3:
			part.Kids = append(part.Kids, leaf(0))
		case 4:
			part.Kids = part.Kids[:len(part.Kids)/2]
		}
		if okEx(x) {
			holdOk(t, x)
		} else {
			holdWrong(t, fmt.Sprint(x), x)
		}
	}
}

// All texts of a few of the words that matter.
func TestExReadShortTexts(t *testing.T) {
	words := []string{"a", "e", "f", "or", "each", "plus", "1", "20", "0", "21", "05", ""}
	texts := []string{""}
	for many := 1; many <= 5; many++ {
		var longer []string
		for _, text := range texts {
			for _, w := range words {
				next := w
				if many > 1 {
					next = text + " " + w
				}
				holdReadEx(t, next)
				if many < 5 {
					longer = append(longer, next)
				}
			}
		}
		texts = longer
	}
}

func TestExReadNearTexts(t *testing.T) {
	for _, text := range []string{"a", "or a b", "seq plus 20 a b", "not a plus 5 b seq c a", "each and a b c plus 1 d", "plus 10 plus 19 e", "not each a b c not a b c or a b"} {
		nearTexts(text, func(near string) {
			t.Helper()
			holdReadEx(t, near)
		})
	}
}

// All texts that are one word off.
func TestExReadNearWords(t *testing.T) {
	puts := []string{"a", "b", "e", "f", "or", "and", "seq", "not", "each", "plus", "1", "2", "20", "21", "0", "01", ""}
	for _, text := range []string{"a", "or a b", "seq plus 20 a b", "not a plus 5 b seq c a", "plus 1 plus 1 plus 1 plus 1 e", "not each a b c not a b c or a b"} {
		words := strings.Split(text, " ")
		for i := 0; i <= len(words); i++ {
			for _, put := range puts {
				holdReadEx(t, strings.Join(slices.Insert(slices.Clone(words), i, put), " "))
				if i < len(words) {
					other := slices.Clone(words)
					other[i] = put
					holdReadEx(t, strings.Join(other, " "))
				}
			}
			if i < len(words) {
				holdReadEx(t, strings.Join(slices.Delete(slices.Clone(words), i, i+1), " "))
			}
		}
	}
}

// Any bytes at all.
func TestExReadAnyBytes(t *testing.T) {
	r := rand.New(rand.NewSource(5))
	for range 50000 {
		b := make([]byte, r.Intn(20))
		for j := range b {
			b[j] = byte(r.Intn(256))
		}
		holdReadEx(t, string(b))
		text := []byte(textEx(someEx(r, 4)))
		for n := r.Intn(4); n > 0; n-- {
			text[r.Intn(len(text))] = "abcdefnoplrsqu0123456789 \x00\xff"[r.Intn(27)]
		}
		holdReadEx(t, string(text))
	}
}

// spoil overwrites all lists of kids, spare room included.
func spoil(x impl.Ex) {
	kids := x.Kids[:cap(x.Kids)]
	for i := range kids {
		spoil(kids[i])
		kids[i] = impl.Ex{Kind: -9, Sym: -9, N: -9}
	}
}

// An answer is new memory, spare room included, and no two lists of it share any.
func TestExMemory(t *testing.T) {
	const text = "not a plus 5 b seq c a"
	want, _ := readBackwards(text)
	a, _ := impl.ExRead(text)
	b, _ := impl.ExRead(text)
	spoil(a)
	c, ok := impl.ExRead(text)
	if !ok || !sameEx(b, want) || !sameEx(c, want) {
		t.Errorf("answers share memory: %v, %v", b, c)
	}
	// Each list of kids is written full and behind its end: the others stay.
	for place := range 3 {
		x, _ := impl.ExRead("not or a b or a b or a b")
		spoil(x.Kids[place])
		for other := range 3 {
			if other != place && !sameEx(x.Kids[other], least(impl.ExOr)) {
				t.Errorf("lists %d and %d share memory", place, other)
			}
		}
		if kid := x.Kids[place]; kid.Kind != impl.ExOr || len(kid.Kids) != 2 {
			t.Errorf("list %d shares memory with the one around it", place)
		}
	}
	syms := impl.ExSyms(b)
	syms = syms[:cap(syms)]
	for i := range syms {
		syms[i] = -9
	}
	if !sameEx(b, want) || !slices.Equal(impl.ExSyms(b), []int{0, 1, 2}) {
		t.Error("ExSyms shares memory")
	}
}

// Nothing is written into an argument or behind its end.
func TestExArguments(t *testing.T) {
	for _, many := range []int{1, 2, 3, 4} {
		store := append(leaves(many), plus(7, leaf(3)), leaf(2), impl.Ex{Kind: 9})
		kept := copied(impl.Ex{Kids: store})
		for kind := -1; kind <= 8; kind++ {
			x := impl.Ex{Kind: kind, Kids: store[:many]}
			if kind == impl.ExPlus {
				x.N = 1
			}
			impl.ExOk(x)
			impl.ExSame(x, impl.Ex{Kind: kind, N: x.N, Kids: store[1 : 1+many]})
			impl.ExSame(x, x)
			impl.ExMany(x)
			impl.ExSyms(x)
			impl.ExText(x)
		}
		if !sameEx(impl.Ex{Kids: store}, kept) {
			t.Errorf("the argument is changed: %v", store)
		}
	}
}
