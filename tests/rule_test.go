package tests

import (
	"fmt"
	"math"
	"math/rand"
	"regexp"
	"slices"
	"strconv"
	"strings"
	"testing"
	"unsafe"

	"loop.example/bellman/impl"
)

// ruleName is what a name is, told otherwise.
var ruleName = regexp.MustCompile(`\A[a-z]{1,6}\z`)

// rulePattern is what the words of a line are, told otherwise; what is looked for stands behind them.
var rulePattern = regexp.MustCompile(`(?s)\A([a-z]{1,6}) ([0-9]) ([0-4]) (0|[1-9][0-9]?|100) (0|[1-9][0-9]?|100) ([0-3]) (0|-?[1-9]) ([a-e-]) (.*)\z`)

// okRule is RuleOk, told otherwise.
func okRule(r impl.Rule) bool {
	for _, c := range [][3]int{{r.Pri, 0, 9}, {r.Mode, 0, 4}, {r.Low, 0, 100}, {r.High, 0, 100}, {r.Key, 0, 3}, {r.Add, -9, 9}, {r.Raise, -1, 4}} {
		if c[0] < c[1] || c[0] > c[2] {
			return false
		}
	}
	return ruleName.MatchString(r.Name) && r.Low <= r.High && okEx(r.Ex)
}

// textRule is the line of what is ok, told otherwise.
func textRule(r impl.Rule) string {
	raise := "-abcde"[r.Raise+1 : r.Raise+2]
	return fmt.Sprintf("%s %d %d %d %d %d %d %s %s", r.Name, r.Pri, r.Mode, r.Low, r.High, r.Key, r.Add, raise, textEx(r.Ex))
}

// readByPattern reads a line in another way than the program does: by a pattern.
func readByPattern(text string) (impl.Rule, bool) {
	m := rulePattern.FindStringSubmatch(text)
	if m == nil || len(text) > 400 {
		return impl.Rule{}, false
	}
	var n [8]int
	for i := 2; i <= 7; i++ {
		n[i], _ = strconv.Atoi(m[i])
	}
	x, ok := readBackwards(m[9])
	if !ok || n[4] > n[5] {
		return impl.Rule{}, false
	}
	return impl.Rule{Name: m[1], Pri: n[2], Mode: n[3], Low: n[4], High: n[5], Key: n[6], Add: n[7], Raise: strings.Index("-abcde", m[8]) - 1, Ex: x}, true
}

// sameRule holds two against each other without the program's help.
func sameRule(a, b impl.Rule) bool {
	numbers := func(r impl.Rule) [7]int { return [7]int{r.Pri, r.Mode, r.Low, r.High, r.Key, r.Add, r.Raise} }
	return a.Name == b.Name && numbers(a) == numbers(b) && sameEx(a.Ex, b.Ex)
}

// copiedRules is the same in memory of its own.
func copiedRules(list []impl.Rule) []impl.Rule {
	list = slices.Clone(list)
	for i := range list {
		list[i].Ex = copied(list[i].Ex)
	}
	return list
}

// plain is a rule that is ok, of a name and of how soon it follows.
func plain(name string, pri int) impl.Rule {
	return impl.Rule{Name: name, Pri: pri, High: 100, Raise: -1, Ex: leaf(0)}
}

// middle is a rule that is ok, and none of whose parts is at a bound.
func middle() impl.Rule {
	return impl.Rule{Name: "abc", Pri: 5, Mode: 2, Low: 20, High: 70, Key: 1, Add: 3, Raise: 2, Ex: node(impl.ExSeq, leaf(1), plus(4, leaf(3)))}
}

// someRule is any rule that is ok.
func someRule(r *rand.Rand) impl.Rule {
	name := make([]byte, 1+r.Intn(6))
	for i := range name {
		name[i] = byte('a' + r.Intn(26))
	}
	x := someEx(r, 1+r.Intn(5))
	for !okEx(x) {
		x = someEx(r, 1+r.Intn(5))
	}
	low := r.Intn(101)
	high := low + r.Intn(101-low)
	return impl.Rule{Name: string(name), Pri: r.Intn(10), Mode: r.Intn(5), Low: low, High: high, Key: r.Intn(4), Add: r.Intn(19) - 9, Raise: r.Intn(6) - 1, Ex: x}
}

// holdRuleRead holds what the program reads from a line against what readByPattern does.
func holdRuleRead(t *testing.T, text string) bool {
	t.Helper()
	want, wantOk := readByPattern(text)
	got, ok := impl.RuleRead(text)
	if ok != wantOk || !sameRule(got, want) {
		t.Fatalf("RuleRead(%q) = %v, %v; want %v, %v", text, got, ok, want, wantOk)
	}
	if ok && impl.RuleLine(got) != text {
		t.Fatalf("RuleRead(%q) has the line %q", text, impl.RuleLine(got))
	}
	return ok
}

// holdRule holds all that the program says of one rule against what is told otherwise, and says whether it is ok.
func holdRule(t *testing.T, name string, r impl.Rule) bool {
	t.Helper()
	ok := okRule(r)
	line := ""
	if ok {
		line = textRule(r)
	}
	if impl.RuleOk(r) != ok || impl.RulesOk([]impl.Rule{r}) != ok || impl.RuleLine(r) != line {
		t.Fatalf("%s: %v, %v, %q; want %v, %q", name, impl.RuleOk(r), impl.RulesOk([]impl.Rule{r}), impl.RuleLine(r), ok, line)
	}
	if order := impl.RulesOrder([]impl.Rule{r}); len(order) > 0 != ok {
		t.Fatalf("%s: order %v", name, order)
	}
	got, read := impl.RuleRead(line)
	if read != ok || ok && !sameRule(got, r) || !ok && !sameRule(got, impl.Rule{}) {
		t.Fatalf("%s: RuleRead(%q) = %v, %v", name, line, got, read)
	}
	return ok
}

// rulePart is a number of a rule, and its bounds.
type rulePart struct {
	name      string
	of        func(r *impl.Rule) *int
	low, high int
}

func ruleParts() []rulePart {
	return []rulePart{
		{"Pri", func(r *impl.Rule) *int { return &r.Pri }, 0, 9},
		{"Mode", func(r *impl.Rule) *int { return &r.Mode }, 0, 4},
		{"Low", func(r *impl.Rule) *int { return &r.Low }, 0, 70},
		{"High", func(r *impl.Rule) *int { return &r.High }, 20, 100},
		{"Key", func(r *impl.Rule) *int { return &r.Key }, 0, 3},
		{"Add", func(r *impl.Rule) *int { return &r.Add }, -9, 9},
		{"Raise", func(r *impl.Rule) *int { return &r.Raise }, -1, 4},
	}
}

// farNumbers are numbers that are none of a rule's, or that would be if they were shorter.
var farNumbers = []int{-101, -100, 101, 255, 256, 257, 1 << 32, 1<<32 + 1, 1<<32 + 20, -1 << 32, 1<<32 - 1, math.MinInt, math.MinInt + 1, math.MaxInt, math.MaxInt - 1}

// wrongRules are rules of which just one part is wrong.
func wrongRules() map[string]impl.Rule {
	list := map[string]impl.Rule{}
	for _, part := range ruleParts() {
		for _, n := range append([]int{part.low - 1, part.high + 1}, farNumbers...) {
			r := middle()
			*part.of(&r) = n
			list[fmt.Sprint(part.name, " ", n)] = r
		}
	}
	for _, name := range []string{"", "abcdefg", "A", "ab c", "a-", "é", "`", "{", "a1", strings.Repeat("a", 5000)} {
		r := middle()
		r.Name = name
		list[fmt.Sprintf("Name %q", name)] = r
	}
	for name, x := range wrongExs() {
		r := middle()
		r.Ex = x
		list["Ex "+name] = r
	}
	return list
}

func TestRuleBounds(t *testing.T) {
	if impl.RuleMax != 4 || impl.RuleName != 6 || impl.RulePri != 9 || impl.RuleKeys != 4 || impl.RuleAdd != 9 {
		t.Error("bounds of the document")
	}
}

func TestRuleNothing(t *testing.T) {
	if holdRule(t, "nothing", impl.Rule{}) {
		t.Error("nothing is a rule")
	}
	if !holdRule(t, "a plain one", plain("a", 0)) || !holdRule(t, "one in the middle", middle()) {
		t.Error("a rule is none")
	}
}

// Each number at its bounds and one past them, the others in the middle; and all between.
func TestRuleNumbers(t *testing.T) {
	for _, part := range ruleParts() {
		for n := -110; n <= 110; n++ {
			r := middle()
			*part.of(&r) = n
			if ok := holdRule(t, fmt.Sprint(part.name, " ", n), r); ok != (part.low <= n && n <= part.high) {
				t.Errorf("%s %d: %v", part.name, n, ok)
			}
		}
		for _, n := range farNumbers {
			r := middle()
			*part.of(&r) = n
			if holdRule(t, fmt.Sprint(part.name, " ", n), r) {
				t.Errorf("%s %d", part.name, n)
			}
		}
	}
}

// Low and High against each other, and both at their bounds.
func TestRuleLowHigh(t *testing.T) {
	for low := -2; low <= 102; low++ {
		for high := -2; high <= 102; high++ {
			r := middle()
			r.Low, r.High = low, high
			if ok := holdRule(t, fmt.Sprint(low, " to ", high), r); ok != (low >= 0 && low <= high && high <= 100) {
				t.Errorf("%d to %d: %v", low, high, ok)
			}
		}
	}
	for _, low := range farNumbers {
		for _, high := range append([]int{low, 50}, farNumbers...) {
			r := middle()
			r.Low, r.High = low, high
			if holdRule(t, fmt.Sprint(low, " to ", high), r) {
				t.Errorf("%d to %d", low, high)
			}
		}
	}
}

func TestRuleNames(t *testing.T) {
	for name, want := range map[string]bool{
		"": false, "a": true, "z": true, "az": true, "abcdef": true, "zzzzzz": true, "abcdefg": false, "aaaaaaaaaaaa": false,
		"`": false, "{": false, "`a": false, "a`": false, "a{": false, "{a": false, "abc`ef": false, "abc{ef": false,
		"A": false, "Z": false, "aB": false, "a1": false, "1": false, "a b": false, " a": false, "a ": false, "-": false, "a-b": false,
		"a\x00": false, "\x00": false, "é": false, "aé": false, "ａ": false, "a\n": false, "\xff": false, "\xe1": false,
	} {
		r := middle()
		r.Name = name
		if got := holdRule(t, fmt.Sprintf("%q", name), r); got != want {
			t.Errorf("%q: %v", name, got)
		}
	}
	// Each byte at each place of names of each size.
	for size := range 8 {
		for place := range size {
			for b := range 256 {
				name := []byte(strings.Repeat("m", size))
				name[place] = byte(b)
				r := middle()
				r.Name = string(name)
				if got := holdRule(t, fmt.Sprintf("%q", name), r); got != (size <= 6 && b >= 'a' && b <= 'z') {
					t.Errorf("%q: %v", name, got)
				}
			}
		}
	}
}

func TestRuleWrong(t *testing.T) {
	for name, r := range wrongRules() {
		if impl.RuleOk(r) || impl.RuleLine(r) != "" || impl.RulesOk([]impl.Rule{r}) || len(impl.RulesOrder([]impl.Rule{r})) > 0 {
			t.Errorf("%s: %v, %q", name, impl.RuleOk(r), impl.RuleLine(r))
		}
		// At each place of a list that is ok but for it.
		for many := 1; many <= 4; many++ {
			for place := range many {
				var list []impl.Rule
				for i := range many {
					list = append(list, plain("wxyz"[i:i+1], i))
				}
				if !impl.RulesOk(list) {
					t.Fatal("a list that is ok")
				}
				list[place] = r
				if impl.RulesOk(list) || len(impl.RulesOrder(list)) > 0 {
					t.Errorf("%s, at %d of %d", name, place, many)
				}
			}
		}
	}
}

// P8: many rules, each read from its line as it was.
func TestRulesAreReadAsTheyWere(t *testing.T) {
	r := rand.New(rand.NewSource(81))
	longest := 0
	for range 60000 {
		one := someRule(r)
		if !holdRule(t, fmt.Sprint(one), one) {
			t.Fatalf("%v is no rule", one)
		}
		longest = max(longest, len(textRule(one)))
		if got, ok := impl.RuleRead(impl.RuleLine(one)); !ok || !impl.RulesSame([]impl.Rule{got}, []impl.Rule{one}) {
			t.Fatalf("%q: %v, %v", textRule(one), got, ok)
		}
		holdRuleRead(t, textRule(one))
	}
	if longest < 60 {
		t.Errorf("the longest line has only %d bytes", longest)
	}
}

// One part of something that is ok, changed at random, or more than one.
func TestRuleWrongSomewhere(t *testing.T) {
	r := rand.New(rand.NewSource(82))
	parts := ruleParts()
	kept, wrong := 0, 0
	for range 60000 {
		one := someRule(r)
		for range 1 + r.Intn(2) {
			part := parts[r.Intn(len(parts))]
			switch r.Intn(6) {
			case 0:
				*part.of(&one) = farNumbers[r.Intn(len(farNumbers))]
			case 1:
				one.Ex = someEx(r, 5)
			case 2:
				one.Name = []string{"", "seven", "sevenn", "sevenns", "a c", "A"}[r.Intn(6)]
			case 3:
				one.Low, one.High = one.High, one.Low
			default:
				*part.of(&one) = r.Intn(30) - 12
			}
		}
		if holdRule(t, fmt.Sprint(one), one) {
			kept++
		} else {
			wrong++
		}
	}
	if kept < 10000 || wrong < 10000 {
		t.Errorf("%d are ok, %d are not", kept, wrong)
	}
}

func TestRuleLines(t *testing.T) {
	for line, want := range map[string]impl.Rule{
		"a 0 0 0 0 0 0 - a":                     {Name: "a", Raise: -1, Ex: leaf(0)},
		"zzzzzz 9 4 100 100 3 9 e e":            {Name: "zzzzzz", Pri: 9, Mode: 4, Low: 100, High: 100, Key: 3, Add: 9, Raise: 4, Ex: leaf(4)},
		"up 5 0 0 100 1 -1 - seq a b":           {Name: "up", Pri: 5, High: 100, Key: 1, Add: -1, Raise: -1, Ex: node(impl.ExSeq, leaf(0), leaf(1))},
		"down 7 1 1 5 0 -9 a c":                 {Name: "down", Pri: 7, Mode: 1, Low: 1, High: 5, Add: -9, Ex: leaf(2)},
		"mid 1 2 10 99 2 1 b plus 20 or d e":    {Name: "mid", Pri: 1, Mode: 2, Low: 10, High: 99, Key: 2, Add: 1, Raise: 1, Ex: plus(20, node(impl.ExOr, leaf(3), leaf(4)))},
		"a 0 3 0 0 0 0 d a":                     {Name: "a", Mode: 3, Raise: 3, Ex: leaf(0)},
		"seq 0 0 0 0 0 0 c not a b c":           {Name: "seq", Raise: 2, Ex: node(impl.ExNot, leaf(0), leaf(1), leaf(2))},
		"plus 1 0 9 10 0 -5 - and a each b c d": {Name: "plus", Pri: 1, Low: 9, High: 10, Add: -5, Raise: -1, Ex: node(impl.ExAnd, leaf(0), node(impl.ExEach, leaf(1), leaf(2), leaf(3)))},
		"order 9 2 0 100 0 1 d seq a b":         {Name: "order", Pri: 9, Mode: 2, High: 100, Add: 1, Raise: 3, Ex: node(impl.ExSeq, leaf(0), leaf(1))},
		"late 5 0 0 100 1 5 - not a b plus 4 a": {Name: "late", Pri: 5, High: 100, Key: 1, Add: 5, Raise: -1, Ex: node(impl.ExNot, leaf(0), leaf(1), plus(4, leaf(0)))},
		"big 5 1 10 100 2 1 - d":                {Name: "big", Pri: 5, Mode: 1, Low: 10, High: 100, Key: 2, Add: 1, Raise: -1, Ex: leaf(3)},
		"loop 0 0 50 100 3 1 d d":               {Name: "loop", Low: 50, High: 100, Key: 3, Add: 1, Raise: 3, Ex: leaf(3)},
		"abcdef 9 4 99 100 3 -9 a each plus 20 a plus 19 b each plus 18 c plus 17 d plus 16 e": {Name: "abcdef", Pri: 9, Mode: 4, Low: 99, High: 100, Key: 3, Add: -9, Ex: node(impl.ExEach, plus(20, leaf(0)), plus(19, leaf(1)), node(impl.ExEach, plus(18, leaf(2)), plus(17, leaf(3)), plus(16, leaf(4))))},
	} {
		got, ok := impl.RuleRead(line)
		if !ok || !sameRule(got, want) || impl.RuleLine(want) != line || !impl.RuleOk(want) {
			t.Errorf("RuleRead(%q) = %v, %v; RuleLine %q", line, got, ok, impl.RuleLine(want))
		}
		holdRuleRead(t, line)
	}
}

func TestRuleNoLines(t *testing.T) {
	for _, line := range []string{
		"", " ", "\n", "a", "-", "up", "up 5 0 0 100 1 2 -", "up 5 0 0 100 1 2 - ", "up 5 0 0 100 1 2 a", "5 0 0 100 1 2 - a", " 5 0 0 100 1 2 - a", // too few words
		"up 5 0 0 100 1 2 - a a", "up 5 0 0 100 1 2 0 - a", "up up 5 0 0 100 1 2 - a", "up 5 0 0 100 1 2 - - a", "up 5 0 0 100 1 2 - or a b c", "up 5 0 0 100 1 2 - a ", // too many
		"up 05 0 0 100 1 2 - a", "up 5 00 0 100 1 2 - a", "up 5 0 00 100 1 2 - a", "up 5 0 0 0100 1 2 - a", "up 5 0 0 100 01 2 - a", "up 5 0 0 100 1 02 - a", "up 5 0 0 100 1 -02 - a", "up 5 0 0 100 1 2 - plus 02 a", // needless zeros
		"up -0 0 0 100 1 2 - a", "up 5 -0 0 100 1 2 - a", "up 5 0 -0 100 1 2 - a", "up 5 0 0 -0 1 2 - a", "up 5 0 0 100 -0 2 - a", "up 5 0 0 100 1 -0 - a",
		"up +5 0 0 100 1 2 - a", "up 5 +0 0 100 1 2 - a", "up 5 0 +0 100 1 2 - a", "up 5 0 0 +100 1 2 - a", "up 5 0 0 100 +1 2 - a", "up 5 0 0 100 1 +2 - a", "up 5 0 0 100 1 +-2 - a", "up 5 0 0 100 1 -+2 - a", "up 5 0 0 100 1 --2 - a", "up 5 0 0 100 1 2- - a", "up 5 0 0 100 1 - - a",
		"up -5 0 0 100 1 2 - a", "up 5 -1 0 100 1 2 - a", "up 5 0 -1 100 1 2 - a", "up 5 0 0 -100 1 2 - a", "up 5 0 -5 -1 1 2 - a", "up 5 0 0 100 -1 2 - a", // below 0 where there may be none
		"up 5 0 0 100 1 -10 - a", "up 5 0 0 100 1 10 - a", "up 10 0 0 100 1 2 - a", "up 5 5 0 100 1 2 - a", "up 5 0 101 101 1 2 - a", "up 5 0 0 101 1 2 - a", "up 5 0 6 5 1 2 - a", "up 5 0 0 100 4 2 - a", // past a bound
		"up 18446744073709551621 0 0 100 1 2 - a", "up 5 18446744073709551616 0 100 1 2 - a", "up 5 0 18446744073709551616 100 1 2 - a", "up 5 0 0 18446744073709551716 1 2 - a", "up 5 0 0 100 18446744073709551617 2 - a", "up 5 0 0 100 1 18446744073709551618 - a", "up 5 0 0 100 1 -18446744073709551618 - a", "up 5 0 0 100 1 9223372036854775807 - a", "up 5 0 0 100 1 -9223372036854775808 - a", "up 4294967301 0 0 100 1 2 - a", "up 5 0 0 100 1 " + strings.Repeat("9", 300) + " - a",
		"up  5 0 0 100 1 2 - a", "up 5 0 0 100 1 2  - a", "up 5 0 0 100 1 2 -  a", "up 5 0 0 100 1 2 - or  a b", " up 5 0 0 100 1 2 - a", "  up 5 0 0 100 1 2 - a", // spaces
		"up\t5 0 0 100 1 2 - a", "up 5 0 0 100 1 2 -\ta", "up 5 0 0 100 1 2 - a\t", "\tup 5 0 0 100 1 2 - a", "up 5 0 0 100 1 2 - a\n", "\nup 5 0 0 100 1 2 - a", "up 5 0 0 100 1 2\n- a", "up 5 0 0 100 1 2 - or a\nb", "up 5 0 0 100 1 2 - a\r", "up 5 0 0 100 1 2 - a\x00", "up\u00a05 0 0 100 1 2 - a",
		"up 5 0 0 100 1 2 f a", "up 5 0 0 100 1 2 A a", "up 5 0 0 100 1 2 ? a", "up 5 0 0 100 1 2 ` a", "up 5 0 0 100 1 2 ab a", "up 5 0 0 100 1 2 -1 a", "up 5 0 0 100 1 2 0 a", "up 5 0 0 100 1 2 -a a", "up 5 0 0 100 1 2 -- a", "up 5 0 0 100 1 2  a", "up 5 0 0 100 1 2 é a", "up 5 0 0 100 1 2 . a", // letters that are none
		"up 5 0 0 100 1 2 - f", "up 5 0 0 100 1 2 - A", "up 5 0 0 100 1 2 - or a", "up 5 0 0 100 1 2 - or", "up 5 0 0 100 1 2 - plus a", "up 5 0 0 100 1 2 - plus 0 a", "up 5 0 0 100 1 2 - plus 21 a", "up 5 0 0 100 1 2 - xor a b", "up 5 0 0 100 1 2 - -", "up 5 0 0 100 1 2 - 1", "up 5 0 0 100 1 2 - plus 1 plus 1 plus 1 plus 1 plus 1 a", "up 5 0 0 100 1 2 - or or or a a or a a or or a a plus 1 a", // what can't be looked for
		"Up 5 0 0 100 1 2 - a", "u1 5 0 0 100 1 2 - a", "abcdefg 5 0 0 100 1 2 - a", "u` 5 0 0 100 1 2 - a", "u{ 5 0 0 100 1 2 - a", "- 5 0 0 100 1 2 - a", "é 5 0 0 100 1 2 - a", "? 5 0 0 100 1 2 - a", // names
		"up x 0 0 100 1 2 - a", "up 5x 0 0 100 1 2 - a", "up 5 0 0 1e2 1 2 - a", "up 5 0 0 100 1 0x2 - a", "up 5 0 0 100 1 2. - a", "up 5 0 0 1_0 1 2 - a", "up 5,0 0 100 1 2 - a", "up 5 0 0 100 1 ٢ - a", "up 5 0 0 100 1 −2 - a", // no numbers
		"up 0 5 0 100 1 2 - a", "up 5 0 100 0 1 2 - a", "up 5 0 0 100 9 2 - a", "up 5 0 0 100 1 - 2 a", "5 up 0 0 100 1 2 - a", "up 5 0 0 100 1 2 a -", // in another order
	} {
		if holdRuleRead(t, line) {
			t.Errorf("RuleRead(%q) reads it", line)
		}
	}
}

// A line of as many bytes as may be read, and of more: no rule's line is as long.
func TestRuleLongLines(t *testing.T) {
	const line = "abcdef 9 4 99 100 3 -9 a or a b"
	for _, size := range []int{299, 300, 301, 399, 400, 401, 402, 1000, 100000} {
		left := size - len(line)
		for name, text := range map[string]string{
			"spaces behind":    line + strings.Repeat(" ", left),
			"spaces ahead":     strings.Repeat(" ", left) + line,
			"spaces between":   "abcdef 9 4 99 100 3 -9 a or" + strings.Repeat(" ", left) + " a b",
			"a long name":      strings.Repeat("x", left) + line,
			"a long number":    "abcdef 9 4 99 100 3 -9" + strings.Repeat("0", left) + " a or a b",
			"zeros":            "abcdef " + strings.Repeat("0", left) + "9 4 99 100 3 -9 a or a b",
			"many words":       line + strings.Repeat(" a", left/2),
			"words of no kind": strings.Repeat("-", size),
			"many ors":         "abcdef 9 4 99 100 3 -9 a or a b"[:25] + strings.Repeat("or ", left/3) + "a b",
			"newlines":         line + strings.Repeat("\n", left),
		} {
			if holdRuleRead(t, text) {
				t.Errorf("%s, %d bytes: read", name, len(text))
			}
		}
	}
}

// Each word of a line, left out, doubled, swapped with the next one, and replaced.
func TestRuleNearWords(t *testing.T) {
	puts := []string{"", "-", "--", "a", "b", "e", "f", "z", "up", "abcdef", "abcdefg", "0", "-0", "+0", "00", "1", "-1", "+1", "01", "-01", "3", "4", "5", "-5", "9", "-9", "10", "-10", "99", "100", "101", "-100", "or", "plus", "seq", "18446744073709551617", "-18446744073709551617"}
	read := 0
	for _, line := range []string{"a 0 0 0 0 0 0 - a", "up 5 0 0 100 1 2 - seq a b", "down 9 4 100 100 3 -9 e plus 5 c", "b 4 4 4 4 3 4 b b", "or 1 1 1 1 1 -1 a not a b c"} {
		words := strings.Split(line, " ")
		hold := func(words []string) {
			t.Helper()
			if holdRuleRead(t, strings.Join(words, " ")) {
				read++
			}
		}
		for i := 0; i <= len(words); i++ {
			for _, put := range puts {
				hold(slices.Insert(slices.Clone(words), i, put))
				if i < len(words) {
					other := slices.Clone(words)
					other[i] = put
					hold(other)
				}
			}
			if i < len(words) {
				hold(slices.Delete(slices.Clone(words), i, i+1))
				hold(slices.Insert(slices.Clone(words), i, words[i]))
			}
			if i+1 < len(words) {
				other := slices.Clone(words)
				other[i], other[i+1] = other[i+1], other[i]
				hold(other)
			}
		}
	}
	if read < 200 {
		t.Errorf("only %d are read", read)
	}
}

func TestRuleNearTexts(t *testing.T) {
	read := 0
	for _, line := range []string{"a 0 0 0 0 0 0 - a", "up 5 0 0 100 1 2 - seq a b", "abcdef 9 4 99 100 3 -9 e plus 19 c", "z 1 3 10 11 2 -1 a not a plus 5 b or c a"} {
		nearTexts(line, func(near string) {
			t.Helper()
			if holdRuleRead(t, near) {
				read++
			}
		})
	}
	if read < 500 {
		t.Errorf("only %d are read", read)
	}
}

// Any bytes at all.
func TestRuleReadAnyBytes(t *testing.T) {
	r := rand.New(rand.NewSource(83))
	for range 40000 {
		b := make([]byte, r.Intn(30))
		for j := range b {
			b[j] = byte(r.Intn(256))
		}
		holdRuleRead(t, string(b))
		text := []byte(textRule(someRule(r)))
		for n := r.Intn(4); n > 0; n-- {
			text[r.Intn(len(text))] = "abcdefnoplrsqu0123456789 -+\x00\xff"[r.Intn(29)]
		}
		holdRuleRead(t, string(text))
		holdRuleRead(t, string(text[r.Intn(len(text)):]))
		holdRuleRead(t, string(text[:r.Intn(len(text))]))
	}
}

// All texts of nine words, of a few that matter at each place.
func TestRuleReadWordByWord(t *testing.T) {
	words := [][]string{{"a", "ab", "", "A"}, {"0", "9", "10", "-1"}, {"0", "4", "5", "-1"}, {"0", "50", "100", "101", "-1"}, {"0", "50", "100", "101"}, {"0", "3", "4", "-1"}, {"0", "9", "-9", "10", "-10", "-0"}, {"-", "a", "e", "f", "-1"}, {"a", "or a b", "or a", ""}}
	read, texts := 0, []string{""}
	for place, list := range words {
		var longer []string
		for _, text := range texts {
			for _, w := range list {
				if place > 0 {
					w = text + " " + w
				}
				longer = append(longer, w)
			}
		}
		texts = longer
	}
	for _, text := range texts {
		if holdRuleRead(t, text) {
			read++
		}
	}
	// 2 names, 2 Pri, 2 Mode, 6 of Low and High, 2 Key, 3 Add, 3 letters, 2 to be looked for.
	if read != 2*2*2*6*2*3*3*2 {
		t.Errorf("%d are read", read)
	}
}

// orderModel is RulesOrder, told otherwise: it takes the greatest that is left, the first of several, again and again.
func orderModel(list []impl.Rule) []int {
	var order []int
	for pri := 9; pri >= 0; pri-- {
		for place, r := range list {
			if r.Pri == pri {
				order = append(order, place)
			}
		}
	}
	return order
}

// P8: all rules of 0 to RuleMax that there are, by how soon they should follow.
func TestRulesOrderAll(t *testing.T) {
	names := []string{"d", "a", "c", "b"}
	lists := [][]impl.Rule{nil}
	for many := 0; many <= 4; many++ {
		var longer [][]impl.Rule
		for _, list := range lists {
			if got := impl.RulesOrder(list); !slices.Equal(got, orderModel(list)) || len(got) != many {
				t.Fatalf("RulesOrder(%v) = %v", list, got)
			}
			for pri := 0; pri <= 9 && many < 4; pri++ {
				longer = append(longer, append(slices.Clone(list), plain(names[many], pri)))
			}
		}
		lists = longer
	}
}

func TestRulesOrder(t *testing.T) {
	for _, c := range []struct {
		pris []int
		want []int
	}{
		{nil, nil}, {[]int{0}, []int{0}}, {[]int{9}, []int{0}},
		{[]int{5, 5, 5, 5}, []int{0, 1, 2, 3}}, {[]int{0, 0}, []int{0, 1}}, {[]int{9, 9, 9}, []int{0, 1, 2}},
		{[]int{1, 2, 3, 4}, []int{3, 2, 1, 0}}, {[]int{9, 8, 1, 0}, []int{0, 1, 2, 3}}, {[]int{0, 9}, []int{1, 0}},
		{[]int{3, 7, 3, 7}, []int{1, 3, 0, 2}}, {[]int{7, 3, 3, 7}, []int{0, 3, 1, 2}}, {[]int{1, 1, 1, 2}, []int{3, 0, 1, 2}}, {[]int{2, 1, 1, 1}, []int{0, 1, 2, 3}}, {[]int{4, 6, 5, 6}, []int{1, 3, 2, 0}},
	} {
		var list []impl.Rule
		for i, pri := range c.pris {
			list = append(list, plain("dcba"[i:i+1], pri))
		}
		if got := impl.RulesOrder(list); !slices.Equal(got, c.want) {
			t.Errorf("RulesOrder of Pri %v = %v", c.pris, got)
		}
		// Nothing but Pri matters.
		for i := range list {
			other := middle()
			other.Name, other.Pri, other.Mode, other.Key, other.Add = list[i].Name, list[i].Pri, i, 3-i, 5-i
			list[i] = other
		}
		if got := impl.RulesOrder(list); !slices.Equal(got, c.want) {
			t.Errorf("RulesOrder of Pri %v, all else otherwise = %v", c.pris, got)
		}
	}
}

// Any rules: ok or not, of one name or not, too many or not.
func TestRulesOrderSome(t *testing.T) {
	r := rand.New(rand.NewSource(84))
	right, wrong := 0, 0
	for range 20000 {
		var list []impl.Rule
		names := map[string]bool{}
		ok := true
		for range r.Intn(6) {
			one := someRule(r)
			if r.Intn(4) == 0 {
				one.Name = []string{"a", "b"}[r.Intn(2)]
			}
			if r.Intn(20) == 0 {
				one.Pri = 10
			}
			ok = ok && okRule(one) && !names[one.Name]
			names[one.Name] = true
			list = append(list, one)
		}
		ok = ok && len(list) <= 4
		var want []int
		if ok {
			want = orderModel(list)
			right++
		} else {
			wrong++
		}
		if impl.RulesOk(list) != ok || !slices.Equal(impl.RulesOrder(list), want) {
			t.Fatalf("%v: %v, %v", list, impl.RulesOk(list), impl.RulesOrder(list))
		}
	}
	if right < 5000 || wrong < 5000 {
		t.Errorf("%d are ok, %d are not", right, wrong)
	}
}

func TestRulesOk(t *testing.T) {
	if !impl.RulesOk(nil) || !impl.RulesOk([]impl.Rule{}) || len(impl.RulesOrder(nil)) > 0 || len(impl.RulesOrder([]impl.Rule{})) > 0 {
		t.Error("no rules")
	}
	var list []impl.Rule
	for i := range 6 {
		if got := impl.RulesOk(list); got != (i <= 4) {
			t.Errorf("%d rules: %v", i, got)
		}
		if got := impl.RulesOrder(list); i <= 4 && len(got) != i || i > 4 && len(got) > 0 {
			t.Errorf("%d rules: %v", i, got)
		}
		list = append(list, plain("abcdef"[i:i+1], i))
	}
	var many []impl.Rule
	for i := range 3000 {
		many = append(many, plain(string([]byte{byte('a' + i/676%26), byte('a' + i/26%26), byte('a' + i%26)}), 1))
	}
	if impl.RulesOk(many) || len(impl.RulesOrder(many)) > 0 {
		t.Error("3000 rules")
	}
}

// Two of one name, at any two places, whatever they are like otherwise.
func TestRulesOfOneName(t *testing.T) {
	for many := 2; many <= 4; many++ {
		for second := range many {
			for first := range second {
				var list []impl.Rule
				for i := range many {
					list = append(list, plain([]string{"a", "ab", "b", "ba"}[i], i))
				}
				if !impl.RulesOk(list) {
					t.Fatal("names that begin likewise")
				}
				list[second] = middle()
				list[second].Name = list[first].Name
				if impl.RulesOk(list) || len(impl.RulesOrder(list)) > 0 {
					t.Errorf("%d and %d of %d have one name", first, second, many)
				}
				list[second] = list[first]
				if impl.RulesOk(list) || len(impl.RulesOrder(list)) > 0 {
					t.Errorf("%d and %d of %d are one", first, second, many)
				}
				list[second].Name = "z"
				if !impl.RulesOk(list) {
					t.Errorf("%d and %d of %d, two names", first, second, many)
				}
			}
		}
	}
}

// ruleChanges is a rule, each time changed in one part alone.
func ruleChanges() map[string]impl.Rule {
	list := map[string]impl.Rule{}
	for _, part := range ruleParts() {
		for _, by := range []int{-1, 1, 256, 1 << 32} {
			r := middle()
			*part.of(&r) += by
			list[fmt.Sprint(part.name, " by ", by)] = r
		}
	}
	for _, name := range []string{"", "ab", "abd", "abcd", "Abc", "abc ", "abc\x00"} {
		r := middle()
		r.Name = name
		list[fmt.Sprintf("Name %q", name)] = r
	}
	for name, x := range map[string]impl.Ex{
		"nothing": {}, "a letter": leaf(1), "another kind": node(impl.ExAnd, leaf(1), plus(4, leaf(3))), "another letter": node(impl.ExSeq, leaf(1), plus(4, leaf(2))),
		"another number": node(impl.ExSeq, leaf(1), plus(5, leaf(3))), "turned": node(impl.ExSeq, plus(4, leaf(3)), leaf(1)), "a kid more": node(impl.ExSeq, leaf(1), plus(4, leaf(3)), leaf(1)),
	} {
		r := middle()
		r.Ex = x
		list["Ex "+name] = r
	}
	return list
}

func TestRulesSame(t *testing.T) {
	same := func(name string, a, b []impl.Rule, want bool) {
		t.Helper()
		if impl.RulesSame(a, b) != want || impl.RulesSame(b, a) != want {
			t.Errorf("%s: %v, %v", name, impl.RulesSame(a, b), impl.RulesSame(b, a))
		}
	}
	one, two := middle(), plain("two", 3)
	same("none", nil, nil, true)
	same("nil and empty", nil, []impl.Rule{}, true)
	same("none and one", nil, []impl.Rule{one}, false)
	same("nothing and none", []impl.Rule{{}}, nil, false)
	same("nothing", []impl.Rule{{}}, []impl.Rule{{}}, true)
	same("one", []impl.Rule{one}, []impl.Rule{middle()}, true)
	same("in another memory", []impl.Rule{one, two}, copiedRules([]impl.Rule{one, two}), true)
	same("in another order", []impl.Rule{one, two}, []impl.Rule{two, one}, false)
	same("a beginning", []impl.Rule{one}, []impl.Rule{one, two}, false)
	same("an end", []impl.Rule{two}, []impl.Rule{one, two}, false)
	same("twice", []impl.Rule{one, one}, []impl.Rule{one, one}, true)
	same("twice and once", []impl.Rule{one, one}, []impl.Rule{one}, false)
	empty := plain("two", 3)
	empty.Ex.Kids = []impl.Ex{}
	same("kids nil and empty", []impl.Rule{two}, []impl.Rule{empty}, true)
	for name, other := range ruleChanges() {
		same(name, []impl.Rule{one}, []impl.Rule{other}, false)
		same(name+", the first", []impl.Rule{one, two}, []impl.Rule{other, two}, false)
		same(name+", the last", []impl.Rule{two, two, two, one}, []impl.Rule{two, two, two, other}, false)
		same(name+", itself", []impl.Rule{other, one}, []impl.Rule{other, one}, true)
		same(name+", in another order", []impl.Rule{other, one}, []impl.Rule{one, other}, false)
	}
}

// What is not ok is held against each other, too, even what has no end, and ever so many.
func TestRulesSameWrong(t *testing.T) {
	for name, r := range wrongRules() {
		again := r
		if !impl.RulesSame([]impl.Rule{r}, []impl.Rule{again}) || impl.RulesSame([]impl.Rule{r}, []impl.Rule{middle()}) {
			t.Errorf("%s", name)
		}
	}
	exs := wrongExs()
	for aName, a := range exs {
		for bName, b := range exs {
			one, two := middle(), middle()
			one.Ex, two.Ex = a, b
			want := aName == bName || aName != "itself" && bName != "itself" && sameEx(a, b)
			if got := impl.RulesSame([]impl.Rule{one}, []impl.Rule{two}); got != want {
				t.Errorf("%s and %s: %v", aName, bName, got)
			}
		}
	}
	var many []impl.Rule
	for i := range 2000 {
		many = append(many, plain("same", i))
	}
	again := copiedRules(many)
	if !impl.RulesSame(many, again) {
		t.Error("many")
	}
	again[1999].Ex.N = 1
	if impl.RulesSame(many, again) {
		t.Error("many, the last another one")
	}
}

func TestRulesSameSome(t *testing.T) {
	r := rand.New(rand.NewSource(85))
	for range 20000 {
		var a []impl.Rule
		for range r.Intn(5) {
			a = append(a, someRule(r))
		}
		b := copiedRules(a)
		if !impl.RulesSame(a, b) {
			t.Fatalf("%v", a)
		}
		if len(a) == 0 {
			continue
		}
		place := r.Intn(len(a))
		b[place] = someRule(r)
		if got := impl.RulesSame(a, b); got != sameRule(a[place], b[place]) {
			t.Fatalf("%v and %v: %v", a, b, got)
		}
	}
}

// exMemory is the memory of all lists of kids.
func exMemory(name string, x impl.Ex) []memory {
	var parts []memory
	for i, kid := range x.Kids {
		parts = append(parts, exMemory(fmt.Sprint(name, " ", i), kid)...)
	}
	kids := x.Kids[:cap(x.Kids)]
	text := func() string {
		var words []string
		for _, kid := range kids {
			words = append(words, fmt.Sprint(kid.Kind, kid.Sym, kid.N, len(kid.Kids)))
		}
		return strings.Join(words, ",")
	}
	return append(parts, memory{name, text, func() {
		for i := range kids {
			kids[i] = impl.Ex{Kind: -9, Sym: -9, N: -9}
		}
	}})
}

// ruleMemory is the memory of a list of rules, and of what each looks for.
func ruleMemory(name string, list []impl.Rule) []memory {
	var parts []memory
	for i, r := range list {
		parts = append(parts, exMemory(fmt.Sprint(name, " ", i), r.Ex)...)
	}
	list = list[:cap(list)]
	text := func() string {
		var words []string
		for _, r := range list {
			words = append(words, fmt.Sprint(r.Name, r.Pri, r.Mode, r.Low, r.High, r.Key, r.Add, r.Raise, r.Ex.Kind, r.Ex.Sym, r.Ex.N, len(r.Ex.Kids)))
		}
		return strings.Join(words, ",")
	}
	return append(parts, memory{name, text, func() {
		for i := range list {
			list[i] = impl.Rule{Name: "spoilt", Pri: -9}
		}
	}})
}

// roomyRules is the same rules, of which each list has spare room that is not empty.
func roomyRules(list []impl.Rule) []impl.Rule {
	var roomyEx func(x impl.Ex) impl.Ex
	roomyEx = func(x impl.Ex) impl.Ex {
		var kids []impl.Ex
		for _, kid := range x.Kids {
			kids = append(kids, roomyEx(kid))
		}
		x.Kids = append(kids, impl.Ex{Kind: 70}, impl.Ex{Kind: 71})[:len(kids)]
		return x
	}
	list = slices.Clone(list)
	for i := range list {
		list[i].Ex = roomyEx(list[i].Ex)
	}
	return append(list, plain("room", 7), plain("more", 8))[:len(list)]
}

// memoryRules are lists of rules, ok and not.
func memoryRules() [][]impl.Rule {
	one, two, three := middle(), plain("two", 9), plain("three", 9)
	two.Ex = node(impl.ExNot, least(impl.ExOr), plus(3, leaf(1)), leaf(2))
	three.Ex = plus(1, plus(2, least(impl.ExEach)))
	wrong := middle()
	wrong.Pri = 10
	return [][]impl.Rule{nil, {one}, {one, two}, {three, one, two}, {two, three, one, plain("four", 0)}, {one, wrong}, {one, two, three, plain("four", 0), plain("five", 0)}, {one, one}}
}

// Nothing is written into an argument or behind its end, and what is answered is new memory.
func TestRulesMemory(t *testing.T) {
	for _, list := range memoryRules() {
		holdApart(t, func() []memory {
			a, b := roomyRules(list), roomyRules(list)
			lists := append(ruleMemory("a", a), ruleMemory("b", b)...)
			before := texts(lists)
			impl.RulesOk(a)
			impl.RulesSame(a, b)
			for _, r := range a {
				impl.RuleOk(r)
				impl.RuleLine(r)
			}
			order, again := impl.RulesOrder(a), impl.RulesOrder(a)
			if !slices.Equal(texts(lists), before) {
				t.Fatalf("%v is changed: %v, %v", list, a, b)
			}
			return append(lists, idMemory("order", order), idMemory("order again", again))
		})
	}
}

// What is read from a line twice shares no memory, nor do two lists of it.
func TestRuleReadMemory(t *testing.T) {
	for _, line := range []string{"a 0 0 0 0 0 0 - a", "up 5 0 0 100 1 -2 e not or a b plus 3 or c d each a b c", "up 5 0 0 100 1 -2 e plus 1 plus 2 or c plus 3 a"} {
		holdApart(t, func() []memory {
			a, aOk := impl.RuleRead(line)
			b, bOk := impl.RuleRead(line)
			if !aOk || !bOk || impl.RuleLine(a) != line || impl.RuleLine(b) != line {
				t.Fatalf("%q: %v, %v", line, a, b)
			}
			return append(exMemory("a", a.Ex), exMemory("b", b.Ex)...)
		})
	}
	line := strings.Clone("abcdef 5 0 0 100 1 -2 e or a b")
	r, ok := impl.RuleRead(line)
	if !ok || unsafe.StringData(r.Name) == unsafe.StringData(line) {
		t.Error("the name is a piece of the line")
	}
}
