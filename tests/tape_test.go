package tests

import (
	"fmt"
	"math"
	"math/rand"
	"regexp"
	"slices"
	"strconv"
	"strings"
	"testing"
	"unsafe"

	"loop.example/bellman/impl"
)

// callWord is what the word of a call is, told otherwise.
var callWord = regexp.MustCompile(`\A([a-e])([1-9]|1[0-9]|20)(?:=([1-9][0-9]?|100))?\z`)

// readCalls reads calls in another way than the program does: word by word, by a pattern.
func readCalls(text string) ([]impl.Call, bool) {
	if text == "" {
		return nil, true
	}
	words := strings.Split(text, " ")
	if len(text) > 300 || len(words) > 30 {
		return nil, false
	}
	var calls []impl.Call
	for _, w := range words {
		m := callWord.FindStringSubmatch(w)
		if m == nil {
			return nil, false
		}
		gap, _ := strconv.Atoi(m[2])
		val, _ := strconv.Atoi(m[3]) // 0 of none
		calls = append(calls, impl.Call{Sym: strings.Index("abcde", m[1]), Gap: gap, Val: val})
	}
	return calls, true
}

// textCalls is TapeText, told otherwise.
func textCalls(calls []impl.Call) string {
	var words []string
	for _, c := range calls {
		letter, val := "?", ""
		if c.Sym >= 0 && c.Sym <= 4 {
			letter = "abcde"[c.Sym : c.Sym+1]
		}
		if c.Val != 0 {
			val = fmt.Sprint("=", c.Val)
		}
		words = append(words, fmt.Sprint(letter, c.Gap, val))
	}
	return strings.Join(words, " ")
}

// okCalls is TapeOk, told otherwise.
func okCalls(calls []impl.Call) bool {
	for _, c := range calls {
		if c.Sym < 0 || c.Sym > 4 || c.Gap < 1 || c.Gap > 20 || c.Val < 0 || c.Val > 100 {
			return false
		}
	}
	return len(calls) <= 30
}

// sameCalls holds two lists against each other without the program's help.
func sameCalls(a, b []impl.Call) bool {
	if len(a) != len(b) {
		return false
	}
	for i := range a {
		if a[i].Sym != b[i].Sym || a[i].Gap != b[i].Gap || a[i].Val != b[i].Val {
			return false
		}
	}
	return true
}

// callsOf is calls, from their text; a letter with a number ahead stands for so many calls of it.
func callsOf(t *testing.T, text string) []impl.Call {
	t.Helper()
	var calls []impl.Call
	for _, e := range evsCalls(t, text) {
		calls = append(calls, impl.Call{Sym: e.Sym, Gap: e.At, Val: e.Val})
	}
	return calls
}

// openModel is EngOpen of rules that are ok, told otherwise.
func openModel(rules []impl.Rule) impl.Eng {
	e := impl.Eng{Rules: copiedRules(rules), Keys: []int{0, 0, 0, 0}}
	for _, r := range rules {
		e.Graphs = append(e.Graphs, graphModelOf(r.Ex, r.Mode))
	}
	return e
}

// runModel is TapeRun and TapeGood, told otherwise.
func runModel(rules []impl.Rule, calls []impl.Call) (impl.Eng, []int, []impl.Call) {
	if !okRules(rules) || !okCalls(calls) {
		return impl.Eng{}, nil, nil
	}
	e := openModel(rules)
	var ended []int
	var good []impl.Call
	for _, c := range calls {
		next, code, _ := callModel(findsByGraph, e, c.Sym, c.Gap, c.Val)
		if code == 0 {
			good = append(good, c)
		}
		e, ended = next, append(ended, code)
	}
	return e, ended, good
}

// loadModel is TapeLoad, told otherwise: each call takes its own events from the front of those that are left.
func loadModel(rules []impl.Rule, events []impl.Ev) (impl.Eng, bool) {
	if !okRules(rules) || !okEvs(events) {
		return impl.Eng{}, false
	}
	e, left := openModel(rules), events
	for len(left) > 0 {
		next, code, _ := callModel(findsByGraph, e, left[0].Sym, left[0].At-lastAt(e.Events), left[0].Val)
		more := next.Events[len(e.Events):]
		if code != 0 || len(more) > len(left) || !same(more, left[:len(more)]) {
			return impl.Eng{}, false
		}
		e, left = next, left[len(more):]
	}
	return e, true
}

// holdLoad holds TapeLoad against the model, and answers what it did.
func holdLoad(t *testing.T, rules []impl.Rule, events []impl.Ev) (impl.Eng, bool) {
	t.Helper()
	want, wantOk := loadModel(rules, events)
	e, ok := impl.TapeLoad(rules, events)
	if ok != wantOk || textEng(e) != textEng(want) {
		t.Fatalf("TapeLoad of %v and %v\n= %s, %v\nwant %s, %v", rules, events, textEng(e), ok, textEng(want), wantOk)
	}
	if ok && (!impl.EngOk(e) || !same(e.Events, events)) {
		t.Fatalf("TapeLoad of %v and %v is %s", rules, events, textEng(e))
	}
	return e, ok
}

// holdTape holds all that the program says of rules and calls against the models, asks what P10 promises, and answers what TapeRun did.
func holdTape(t *testing.T, rules []impl.Rule, calls []impl.Call) (impl.Eng, []int) {
	t.Helper()
	want, wantEnded, wantGood := runModel(rules, calls)
	e, ended := impl.TapeRun(rules, calls)
	good := impl.TapeGood(rules, calls)
	if textEng(e) != textEng(want) || !slices.Equal(ended, wantEnded) {
		t.Fatalf("TapeRun of %v and %v\n= %s, %v\nwant %s, %v", rules, calls, textEng(e), ended, textEng(want), wantEnded)
	}
	if !sameCalls(good, wantGood) {
		t.Fatalf("TapeGood of %v and %v = %v, want %v", rules, calls, good, wantGood)
	}
	if !okRules(rules) || !okCalls(calls) {
		return e, ended
	}
	again, fine := impl.TapeRun(rules, good)
	if textEng(again) != textEng(e) || !impl.EngSame(again, e) || !slices.Equal(fine, make([]int, len(good))) {
		t.Fatalf("%v and %v: without those that ended badly %s, %v; with them %s", rules, calls, textEng(again), fine, textEng(e))
	}
	if !sameCalls(impl.TapeGood(rules, good), good) {
		t.Fatalf("%v and %v: of %v only %v are good", rules, calls, good, impl.TapeGood(rules, good))
	}
	loaded, ok := holdLoad(t, rules, e.Events)
	if !ok || textEng(loaded) != textEng(e) || !impl.EngSame(loaded, e) {
		t.Fatalf("%v: made anew from %v: %s, %v; it was %s", rules, e.Events, textEng(loaded), ok, textEng(e))
	}
	return e, ended
}

// nameCodes is codes by their names.
func nameCodes(ended []int) string {
	var words []string
	for _, code := range ended {
		words = append(words, codes[code])
	}
	return strings.Join(words, " ")
}

func TestTapeBounds(t *testing.T) {
	if impl.TapeMax != 30 {
		t.Error("bounds of the document")
	}
}

// Each number at its bounds and past them, in calls ahead of it, between and behind others.
func TestTapeOk(t *testing.T) {
	right := impl.Call{Sym: 2, Gap: 7, Val: 50}
	hold := func(calls []impl.Call, want bool) {
		t.Helper()
		if impl.TapeOk(calls) != want || okCalls(calls) != want {
			t.Errorf("TapeOk(%v) = %v", calls, impl.TapeOk(calls))
		}
	}
	hold(nil, true)
	hold([]impl.Call{}, true)
	hold([]impl.Call{{}}, false)
	for many := range 70 {
		hold(slices.Repeat([]impl.Call{right}, many), many <= 30)
	}
	far := []int{math.MinInt, math.MinInt + 1, -1 << 32, -256, 255, 256, 257, 1 << 32, 1<<32 + 1, math.MaxInt - 1, math.MaxInt}
	for n := range 220 {
		far = append(far, n-60)
	}
	for _, n := range far {
		for _, c := range []struct {
			call impl.Call
			want bool
		}{
			{impl.Call{Sym: n, Gap: 7, Val: 50}, n >= 0 && n <= 4},
			{impl.Call{Sym: 2, Gap: n, Val: 50}, n >= 1 && n <= 20},
			{impl.Call{Sym: 2, Gap: 7, Val: n}, n >= 0 && n <= 100},
		} {
			hold([]impl.Call{c.call}, c.want)
			hold([]impl.Call{c.call, right}, c.want)
			hold([]impl.Call{right, c.call, right}, c.want)
			hold([]impl.Call{right, right, c.call}, c.want)
			hold(append(slices.Repeat([]impl.Call{right}, 29), c.call), c.want)
			hold(append(slices.Repeat([]impl.Call{right}, 30), c.call), false)
		}
	}
	for _, c := range []impl.Call{{Sym: 0, Gap: 1, Val: 0}, {Sym: 4, Gap: 20, Val: 100}, {Sym: 0, Gap: 20, Val: 100}, {Sym: 4, Gap: 1, Val: 0}} {
		hold([]impl.Call{c}, true)
		hold(slices.Repeat([]impl.Call{c}, 30), true)
		hold(slices.Repeat([]impl.Call{c}, 31), false)
	}
}

// Calls, ok or not, and their text.
func TestTapeText(t *testing.T) {
	for _, c := range []struct {
		calls []impl.Call
		want  string
	}{
		{nil, ""},
		{[]impl.Call{}, ""},
		{[]impl.Call{{Sym: 0, Gap: 1}}, "a1"},
		{[]impl.Call{{Sym: 0, Gap: 1}, {Sym: 3, Gap: 2}, {Sym: 0, Gap: 3, Val: 5}}, "a1 d2 a3=5"},
		{[]impl.Call{{Sym: 4, Gap: 20, Val: 100}, {Sym: 1, Gap: 10, Val: 0}, {Sym: 2, Gap: 9, Val: 10}}, "e20=100 b10 c9=10"},
		{[]impl.Call{{Sym: 5, Gap: 1}, {Sym: -1, Gap: 2, Val: 3}}, "?1 ?2=3"},
		{[]impl.Call{{Sym: math.MinInt, Gap: 1}, {Sym: math.MaxInt, Gap: 1}, {Sym: 256, Gap: 1}}, "?1 ?1 ?1"},
		{[]impl.Call{{}, {Gap: -4}, {Gap: -40, Val: -12}, {Gap: 21, Val: 101}}, "a0 a-4 a-40=-12 a21=101"},
		{[]impl.Call{{Gap: math.MinInt, Val: math.MaxInt}, {Gap: math.MaxInt, Val: math.MinInt}}, fmt.Sprintf("a%d=%d a%d=%d", math.MinInt, math.MaxInt, math.MaxInt, math.MinInt)},
		{[]impl.Call{{Gap: 9}, {Gap: 9}, {Gap: 8}}, "a9 a9 a8"},
		{slices.Repeat([]impl.Call{{Sym: 1, Gap: 12, Val: 7}}, 31), strings.TrimSpace(strings.Repeat("b12=7 ", 31))},
		{slices.Repeat([]impl.Call{{Sym: 9, Gap: -1}}, 500), strings.TrimSpace(strings.Repeat("?-1 ", 500))},
	} {
		if got := impl.TapeText(c.calls); got != c.want || textCalls(c.calls) != c.want {
			t.Errorf("TapeText(%v) = %q, want %q", c.calls, got, c.want)
		}
	}
	r := rand.New(rand.NewSource(101))
	numbers := append([]int{-1, 0, 1, 4, 5, 20, 21, 100, 101}, farNumbers...)
	for range 5000 {
		var calls []impl.Call
		for range r.Intn(6) {
			calls = append(calls, impl.Call{Sym: numbers[r.Intn(len(numbers))], Gap: numbers[r.Intn(len(numbers))], Val: numbers[r.Intn(len(numbers))]})
		}
		text := impl.TapeText(calls)
		if text != textCalls(calls) {
			t.Fatalf("TapeText(%v) = %q", calls, text)
		}
		if got, ok := impl.TapeRead(text); ok != okCalls(calls) || ok && !sameCalls(got, calls) || !ok && len(got) != 0 {
			t.Fatalf("%v: TapeRead(%q) = %v, %v", calls, text, got, ok)
		}
	}
}

// holdTapeRead holds what the program reads from a text against what readCalls does, and says whether it is calls.
func holdTapeRead(t *testing.T, text string) bool {
	t.Helper()
	want, wantOk := readCalls(text)
	got, ok := impl.TapeRead(text)
	if ok != wantOk || !sameCalls(got, want) {
		t.Fatalf("TapeRead(%q) = %v, %v; want %v, %v", text, got, ok, want, wantOk)
	}
	if ok && (!impl.TapeOk(got) || impl.TapeText(got) != text) {
		t.Fatalf("TapeRead(%q) has the text %q", text, impl.TapeText(got))
	}
	return ok
}

// longest is as many calls as there may be, each with as long a text as it may have.
func longest() []impl.Call {
	return slices.Repeat([]impl.Call{{Sym: 4, Gap: 20, Val: 100}}, 30)
}

func TestTapeReadTells(t *testing.T) {
	for text, want := range map[string][]impl.Call{
		"":                       nil,
		"a1":                     {{Sym: 0, Gap: 1}},
		"e20=100":                {{Sym: 4, Gap: 20, Val: 100}},
		"a1 d2 a3=5":             {{Sym: 0, Gap: 1}, {Sym: 3, Gap: 2}, {Sym: 0, Gap: 3, Val: 5}},
		"c10=1 d9=10 b19=99 b2":  {{Sym: 2, Gap: 10, Val: 1}, {Sym: 3, Gap: 9, Val: 10}, {Sym: 1, Gap: 19, Val: 99}, {Sym: 1, Gap: 2}},
		"b5 b5 b4 b5=1":          {{Sym: 1, Gap: 5}, {Sym: 1, Gap: 5}, {Sym: 1, Gap: 4}, {Sym: 1, Gap: 5, Val: 1}},
		impl.TapeText(longest()): longest(),
		strings.TrimSpace(strings.Repeat("a1 ", 30)): slices.Repeat([]impl.Call{{Gap: 1}}, 30),
	} {
		got, ok := impl.TapeRead(text)
		if !ok || !sameCalls(got, want) || !holdTapeRead(t, text) {
			t.Errorf("TapeRead(%q) = %v, %v", text, got, ok)
		}
	}
}

func TestTapeReadRefuses(t *testing.T) {
	for _, text := range []string{
		// nearly calls
		"a", "1", "=", "=5", "a=5", "a1=", "a1==5", "a1=5=5", "1a", "ab1", "a1b2", "a1,b2", "a1;b2", "a1\tb2", "a1\nb2",
		" ", "  ", " a1", "a1 ", "a1  b2", "a1 b2 ", " a1 b2", "a1 =5", "a1= 5", "a 1", "a1\n", "\na1", "a1\r", "a1\x00", "\x00", "a1 \x00",
		"A1", "f1", "`1", "?1", "-1", "a-1", "a+1", "a1=-1", "a1=+1", "a1.0", "a1e1", "a0x1", "a1_0", "a-0", "a1=-0",
		// needless zeros, and a number that is 0
		"a01", "a001", "a1=0", "a1=00", "a1=05", "a1=050", "a00", "a0", "a010", "a1=0100",
		// bounds passed by one, and by much
		"a21", "a100", "a1=101", "a20=1000", "a99999999999999999999", "a18446744073709551617", "a1=18446744073709551617", "a4294967297", "a1=4294967297", "a257", "a1=256",
		// one that is wrong among others
		"a0 b1", "a1 f2 c3", "a1 b2 c", "a1 b2=101 c3", "a19 b20 c21", "a1 b2 =5", "a1 b2 c3=0", "a1 b02 c3", "a1 b2  c3", "a1 ? c3",
		// other letters and digits of the world
		"\u00e41", "a\u0661", "\uff41\uff11", "a1\u00a0b2", "\xff", "a1\xff", "\xe11", "a1=\xb5",
		// one call too many
		strings.TrimSpace(strings.Repeat("a1 ", 31)), impl.TapeText(longest()) + " a1", impl.TapeText(longest()) + " ",
	} {
		if got, ok := impl.TapeRead(text); ok || len(got) != 0 || holdTapeRead(t, text) {
			t.Errorf("TapeRead(%q) = %v, %v", text, got, ok)
		}
	}
}

func TestTapeReadLong(t *testing.T) {
	full := impl.TapeText(longest())
	for _, size := range []int{299, 300, 301, 302, 1000, 1 << 20} {
		for name, piece := range map[string]string{"spaces": " ", "digits": "1", "zeros": "0", "letters": "a", "signs": "=", "words": "a1 ", "bytes": "\xff"} {
			for _, head := range []string{"", "a1", "a1=", "a1 ", full, full + " "} {
				text := head + strings.Repeat(piece, size)[:size-len(head)]
				if got, ok := impl.TapeRead(text); ok || len(got) != 0 {
					t.Errorf("%d bytes, %s behind %q: %v, %v", size, name, head, got, ok)
				}
			}
		}
	}
	// Too many calls, each ok, in just 300 bytes and in one more.
	for first, size := range map[string]int{"a1": 299, "a10": 300, "a1=5": 301, "a10=5": 302} {
		text := first + strings.Repeat(" a1", 99)
		if got, ok := impl.TapeRead(text); len(text) != size || ok || len(got) != 0 {
			t.Errorf("%d bytes: %v, %v", len(text), got, ok)
		}
	}
}

// Each call there may be is read from its text as it was.
func TestTapeEachIsReadAsItWas(t *testing.T) {
	for sym := range 5 {
		for gap := 1; gap <= 20; gap++ {
			for val := range 101 {
				c := impl.Call{Sym: sym, Gap: gap, Val: val}
				got, ok := impl.TapeRead(impl.TapeText([]impl.Call{c}))
				if !ok || len(got) != 1 || got[0] != c {
					t.Fatalf("%v: %v, %v", c, got, ok)
				}
			}
		}
	}
}

// someCalls is any calls that are ok.
func someCalls(r *rand.Rand) []impl.Call {
	var calls []impl.Call
	for range r.Intn(31) {
		c := impl.Call{Sym: r.Intn(5), Gap: 1 + r.Intn(20)}
		if r.Intn(2) == 0 {
			c.Val = r.Intn(101)
		}
		calls = append(calls, c)
	}
	return calls
}

// And so are rows of any size; no two of them have one text.
func TestTapesAreReadAsTheyWere(t *testing.T) {
	r := rand.New(rand.NewSource(102))
	texts := map[string][]impl.Call{}
	for range 10000 {
		calls := someCalls(r)
		text := impl.TapeText(calls)
		got, ok := impl.TapeRead(text)
		if !impl.TapeOk(calls) || !ok || !sameCalls(got, calls) || text != textCalls(calls) || !holdTapeRead(t, text) {
			t.Fatalf("%v: %q, %v, %v", calls, text, got, ok)
		}
		if other, known := texts[text]; known && !sameCalls(other, calls) {
			t.Fatalf("%v and %v: %q", other, calls, text)
		}
		texts[text] = calls
	}
}

// All short texts of the bytes that matter, all that are one byte off, and any bytes at all.
func TestTapeReadOtherTexts(t *testing.T) {
	longer := []string{""}
	right := 0
	for size := range 6 {
		texts := longer
		longer = nil
		for _, text := range texts {
			if holdTapeRead(t, text) {
				right++
			}
			for _, b := range "ae?12= 0-" {
				if size < 5 {
					longer = append(longer, text+string(b))
				}
			}
		}
	}
	if right < 50 {
		t.Errorf("only %d short texts are calls", right)
	}
	for _, text := range []string{"a1 b3=5 e20", "c19=100 d10=99", "a1 b2 c3", "e10=10 a11", impl.TapeText(longest())} {
		nearTexts(text, func(near string) {
			t.Helper()
			holdTapeRead(t, near)
		})
	}
	r := rand.New(rand.NewSource(103))
	for range 20000 {
		b := make([]byte, r.Intn(20))
		for i := range b {
			b[i] = byte(r.Intn(256))
		}
		holdTapeRead(t, string(b))
		text := []byte(impl.TapeText(someCalls(r)))
		for n := r.Intn(4); n > 0 && len(text) > 0; n-- {
			text[r.Intn(len(text))] = "abcdef0123456789= ?-\x00\xff"[r.Intn(22)]
		}
		holdTapeRead(t, string(text))
	}
}

// firstFull is rules by which 6 are raised by the first a, and something is found more than 40 times of these.
const firstFull = "p 9 0 0 100 0 1 b a; q 9 0 0 100 0 1 b a; r 8 0 0 100 0 1 c or or a seq a b plus 1 a; s 9 0 0 100 0 1 - and and or b c or b c or b c"

// Calls one behind the other: how each ended, those that are good, and the events and keys at the end.
func TestTapeRuns(t *testing.T) {
	const loop = "up 5 0 0 100 1 2 c a; loop 1 0 0 100 2 0 d d"
	const below = "down 5 0 0 100 0 -3 - a; up 5 0 0 100 0 5 - b"
	for _, c := range []struct {
		rules, calls, ended, good, events, keys string
	}{
		{loop, "a1 d2 a3=5", "fine deep fine", "a1 a3=5", "a1 c2 a5=5 c6=5", "0 4 0 0"},
		{loop, "", "", "", "", "0 0 0 0"},
		{loop, "b20=100", "fine", "b20=100", "b20=100", "0 0 0 0"},
		// Ended badly: the first, several behind each other, the last one, all.
		{loop, "d2 a1", "deep fine", "a1", "a1 c2", "0 2 0 0"},
		{loop, "d2 d1 d20=100 a1", "deep deep deep fine", "a1", "a1 c2", "0 2 0 0"},
		{loop, "a1 d1 d2 d3 b1", "fine deep deep deep fine", "a1 b1", "a1 c2 b3", "0 2 0 0"},
		{loop, "a1 b1 d1", "fine fine deep", "a1 b1", "a1 c2 b3", "0 2 0 0"},
		{loop, "a1 d1 b1 d1 d2", "fine deep fine deep deep", "a1 b1", "a1 c2 b3", "0 2 0 0"},
		{loop, "d1", "deep", "", "", "0 0 0 0"},
		{loop, "d1 d20 d7=3", "deep deep deep", "", "", "0 0 0 0"},
		{below, "a1 b1 a1 a1 b1 a1", "range fine fine range fine fine", "b1 a1 b1 a1", "b1 a2 b3 a4", "4 0 0 0"},
		{below, "b1 a1 a1", "fine fine range", "b1 a1", "b1 a2", "2 0 0 0"},
		{below, "a1 a2 a3 b4 a5 a6 a7", "range range range fine fine range range", "b4 a5", "b4 a9", "2 0 0 0"},
		{below, "a1 a1", "range range", "", "", "0 0 0 0"},
		// The same call may end badly, then well, and then badly again.
		{below, "a9=7 b9 a9=7 a9=7", "range fine fine range", "b9 a9=7", "b9 a18=7", "2 0 0 0"},
		// Full by too many that are found, as the first, in the middle, and as the last one.
		{firstFull, "a1 e1", "full fine", "e1", "e1", "0 0 0 0"},
		{firstFull, "a1 a20 a1=7", "full full full", "", "", "0 0 0 0"},
		{firstFull, "e1 a1 d1 a1 a1", "fine full fine full full", "e1 d1", "e1 d2", "0 0 0 0"},
		// Full by too many that happened: what raises nothing may still be the last.
		{"r 0 0 0 100 3 1 e a", "9a1 2a1 b1 a1 b1 b1 a1", "fine fine fine fine fine fine fine fine fine fine fine fine full fine full full",
			"a1 a1 a1 a1 a1 a1 a1 a1 a1 a1 a1 b1 b1", "a1 e2 a3 e4 a5 e6 a7 e8 a9 e10 a11 e12 a13 e14 a15 e16 a17 e18 a19 e20 a21 e22 b23 b24", "0 0 0 11"},
		{"r 0 0 0 100 3 1 e a", "9b1 9b1 6b1 6b1", strings.TrimSpace(strings.Repeat("fine ", 24) + strings.Repeat("full ", 6)),
			strings.TrimSpace(strings.Repeat("b1 ", 24)), "b1 b2 b3 b4 b5 b6 b7 b8 b9 b10 b11 b12 b13 b14 b15 b16 b17 b18 b19 b20 b21 b22 b23 b24", "0 0 0 0"},
		// All three kinds.
		{loop + "; down 9 0 0 100 3 -1 - b", "d1 b1 a1 b1 d1 a1 e1 b1", "deep range fine range deep fine fine range", "a1 a1 e1", "a1 c2 a3 c4 e5", "0 4 0 0"},
	} {
		rules, calls := rulesOf(t, c.rules), callsOf(t, c.calls)
		e, ended := holdTape(t, rules, calls)
		good := impl.TapeText(impl.TapeGood(rules, calls))
		keys := strings.Trim(fmt.Sprint(e.Keys), "[]")
		if nameCodes(ended) != c.ended || good != c.good || impl.EvsText(e.Events) != c.events || keys != c.keys {
			t.Errorf("%s: %s:\n%s; %s; %s; %s\nwant\n%s; %s; %s; %s", c.rules, c.calls, nameCodes(ended), good, impl.EvsText(e.Events), keys, c.ended, c.good, c.events, c.keys)
		}
		holdMeant(t, e)
	}
}

// TapeRun is EngOpen and EngCall of each; the engine of no calls is the one that is opened.
func TestTapeRunIsCalls(t *testing.T) {
	r := rand.New(rand.NewSource(104))
	for range 300 {
		rules, calls := someRules(r), someCalls(r)
		want := impl.EngOpen(rules)
		var wantEnded []int
		if e, ended := impl.TapeRun(rules, nil); !impl.EngSame(e, want) || textEng(e) != textEng(want) || len(ended) != 0 {
			t.Fatalf("no calls: %s, %v, want %s", textEng(e), ended, textEng(want))
		}
		for n, c := range calls {
			next, code, _ := impl.EngCall(want, c.Sym, c.Gap, c.Val)
			want, wantEnded = next, append(wantEnded, code)
			e, ended := impl.TapeRun(rules, calls[:n+1])
			if textEng(e) != textEng(want) || !impl.EngSame(e, want) || !slices.Equal(ended, wantEnded) {
				t.Fatalf("%v: %s, %v, want %s, %v", calls[:n+1], textEng(e), ended, textEng(want), wantEnded)
			}
		}
	}
}

// No rules: 24 calls are fine, and all more are full.
func TestTapeNoRules(t *testing.T) {
	for _, rules := range [][]impl.Rule{nil, {}} {
		e, ended := holdTape(t, rules, longest())
		want := append(make([]int, 24), 2, 2, 2, 2, 2, 2)
		if !slices.Equal(ended, want) || len(e.Events) != 24 || e.Events[23] != (impl.Ev{Sym: 4, At: 480, Val: 100}) {
			t.Errorf("%v: %s", ended, textEng(e))
		}
		e, ended = holdTape(t, rules, nil)
		if len(ended) != 0 || len(e.Keys) != 4 || len(e.Events) != 0 || !impl.EngOk(e) {
			t.Errorf("no calls: %s, %v", textEng(e), ended)
		}
	}
}

// P10: many rules and many calls. Those that ended badly can be left out, and the engine can be made anew from its events.
func TestTapeBadlyEndedCanBeLeftOut(t *testing.T) {
	r := rand.New(rand.NewSource(105))
	var ended, first, last [5]int
	none, raised, lastRaised, rows := 0, 0, 0, 0
	for range 1800 {
		rules := someRules(r)
		if r.Intn(3) == 0 && len(rules) > 0 {
			rules[0].Add = -1 - r.Intn(9)
		}
		calls := someCalls(r)
		letters := 1 + r.Intn(5)
		for i := range calls {
			calls[i].Sym %= letters
			if r.Intn(2) == 0 {
				calls[i].Gap = 1 + calls[i].Gap%3
			}
			if r.Intn(3) > 0 {
				calls[i].Val %= 7
			}
		}
		e, all := holdTape(t, rules, calls)
		if len(all) != len(calls) {
			t.Fatalf("%d calls, %d codes", len(calls), len(all))
		}
		fine := 0
		for _, code := range all {
			ended[code]++
			if code == 0 {
				fine++
			}
		}
		if len(all) > 0 {
			first[all[0]]++
			last[all[len(all)-1]]++
			rows++
		}
		if fine == 0 && len(all) > 1 {
			none++
		}
		raised += len(e.Events) - fine
		if fine > 0 {
			ahead, _ := impl.TapeRun(rules, impl.TapeGood(rules, calls)[:fine-1])
			if len(e.Events) > len(ahead.Events)+1 {
				lastRaised++
			}
		}
		holdMeant(t, e)
	}
	for code := range 4 {
		if ended[code] < 500 || last[code] < 30 || first[code] < 30 && code != 2 {
			t.Errorf("only %d calls ended %s, %d as the first, %d as the last", ended[code], codes[code], first[code], last[code])
		}
	}
	if ended[4] > 0 {
		t.Errorf("%d calls ended form", ended[4])
	}
	if none < 20 || raised < 1500 || lastRaised < 150 {
		t.Errorf("%d rows: none fine in only %d, only %d raised, %d as the last", rows, none, raised, lastRaised)
	}
}

// wrongTapes is calls that are not ok.
func wrongTapes() map[string][]impl.Call {
	right := impl.Call{Sym: 2, Gap: 7, Val: 50}
	list := map[string][]impl.Call{
		"nothing":      {{}},
		"one too many": slices.Repeat([]impl.Call{right}, 31),
		"far too many": slices.Repeat([]impl.Call{right}, 3000),
	}
	for _, n := range append([]int{-1, 5, 0, 21, 101}, farNumbers...) {
		for name, c := range map[string]impl.Call{"Sym": {Sym: n, Gap: 7}, "Gap": {Gap: n}, "Val": {Gap: 7, Val: n}} {
			if !okCalls([]impl.Call{c}) {
				list[fmt.Sprint(name, " ", n)] = []impl.Call{c}
				list[fmt.Sprint(name, " ", n, " first")] = []impl.Call{c, right}
				list[fmt.Sprint(name, " ", n, " last")] = []impl.Call{right, right, c}
			}
		}
	}
	return list
}

// wrongRuleLists is rules that are not ok.
func wrongRuleLists() map[string][]impl.Rule {
	list := map[string][]impl.Rule{
		"nothing":     {{}},
		"of one name": {plain("x", 1), plain("x", 2)},
		"five":        {plain("a", 1), plain("b", 2), plain("c", 3), plain("d", 4), plain("e", 5)},
	}
	for name, r := range wrongRules() {
		list[name] = []impl.Rule{r}
		list[name+" first"] = []impl.Rule{r, plain("x", 1)}
		list[name+" last"] = []impl.Rule{plain("x", 1), plain("y", 1), r}
	}
	return list
}

// Rules, calls or events that are not ok: nothing and none, or nothing and false, whatever else is right or wrong.
func TestTapeWrong(t *testing.T) {
	calls, events := callsOf(t, "a1 b2 c3=7"), evsOf(t, "a1 b3 c6=7")
	rules := rulesOf(t, "up 5 0 0 100 1 2 - a; see 9 0 0 100 1 2 - seq a b")
	hold := func(name string, rules []impl.Rule, calls []impl.Call, events []impl.Ev) {
		t.Helper()
		if e, ended := holdTape(t, rules, calls); calls != nil && (textEng(e) != textEng(impl.Eng{}) || len(ended) != 0) {
			t.Errorf("%s: TapeRun = %s, %v", name, textEng(e), ended)
		}
		if good := impl.TapeGood(rules, calls); len(good) != 0 {
			t.Errorf("%s: TapeGood = %v", name, good)
		}
		if e, ok := holdLoad(t, rules, events); events != nil && (ok || textEng(e) != textEng(impl.Eng{})) {
			t.Errorf("%s: TapeLoad = %s, %v", name, textEng(e), ok)
		}
	}
	for name, wrong := range wrongRuleLists() {
		hold("rules: "+name, wrong, calls, events)
		hold("rules, of no calls and no events: "+name, wrong, []impl.Call{}, []impl.Ev{})
		hold("both: "+name, wrong, []impl.Call{{}}, []impl.Ev{{}})
	}
	for name, wrong := range wrongTapes() {
		hold("calls: "+name, rules, wrong, nil)
		hold("calls of no rules: "+name, nil, wrong, nil)
		if impl.TapeOk(wrong) {
			t.Errorf("%s: is ok", name)
		}
	}
	for name, wrong := range wrongEvs(t) {
		hold("events: "+name, rules, nil, wrong)
		hold("events of no rules: "+name, nil, nil, wrong)
	}
	hold("a right one", rules, nil, nil)
	if e, ok := holdLoad(t, rules, events); !ok || len(e.Fired) != 2 {
		t.Errorf("what is right is not loaded: %s", textEng(e))
	}
}

// What can be made anew, and what can't: no other calls than those told by the events can bring them about.
func TestTapeLoad(t *testing.T) {
	const up = "up 5 0 0 100 1 2 c a"
	const two = "up 5 0 0 100 1 2 c a; more 1 0 0 100 2 1 d a"
	const deep = "up 5 0 0 100 1 2 c a; loop 1 0 0 100 2 0 d d"
	const below = "down 5 0 0 100 0 -3 - a; up 5 0 0 100 0 5 - b"
	const chain = "x 0 0 0 100 0 1 b a; y 0 0 0 100 0 1 c b; z 0 0 0 100 0 1 d c"
	row24 := "a1 b2 b3 b4 b5 b6 b7 b8 b9 b10 b11 b12 b13 b14 b15 b16 b17 b18 b19 b20 b21 b22 b23"
	for _, c := range []struct {
		rules, events string
		want          bool
	}{
		// Nothing happened; only what was called did; and gaps at their bounds.
		{up, "", true}, {firstFull, "", true}, {up, "b1", true}, {up, "b1 b2 c3=7 e23=100", true}, {up, "c1 c2", true},
		{up, "b20", true}, {up, "b21", false}, {up, "b1 b21", true}, {up, "b1 b22", false}, {up, "b1 b3 b24 b25", false}, {up, "b1000", false}, {up, "b20 b40 b60 b80", true},
		// One that is raised: left out, or with another letter, time or number, or one ahead of it.
		{up, "a1 c2", true}, {up, "a1", false}, {up, "a1 b2", false}, {up, "a1 b3", false}, {up, "a1 c3", false}, {up, "a1 c2=1", false}, {up, "a1=1 c2", false}, {up, "a1=1 c2=1", true}, {up, "a1=1 c2=2", false},
		{up, "a1 b2 c3", false}, {up, "a1 c2 c3", true}, {up, "b1 c2 a3", false}, {up, "a20 c21 b41", true}, {up, "a20 c21 b42", false}, {up, "c1 a2 c3", true},
		{up, "a1 c2 a3 c4", true}, {up, "a1 c2 a3 c5", false}, {up, "a1 c2 a3", false}, {up, "a1 a2 c3 c4", false}, {up, "a1 c3 a4 c5", false}, {up, "a1=5 c2=5 a22=9 c23=9", true}, {up, "a1=5 c2=5 a22=9 c23=5", false},
		// Several by one call, and what these raise.
		{two, "a1 c2 d3", true}, {two, "a1 c2", false}, {two, "a1", false}, {two, "a1 d2 c3", false}, {two, "a1 c2 d4", false}, {two, "a1 c2 b3 d4", false}, {two, "a1 c2 d3 d4", true}, {two, "a1 c2 d3 a4 c5 d6", true}, {two, "a1 c2 d3 a4 c5", false}, {two, "a1 c2 d3 c4 a24 c25 d26", true},
		{chain, "a1 b2 c3 d4", true}, {chain, "a1 b2 c3", false}, {chain, "a1 b2 d3", false}, {chain, "b1 c2 d3 a4 b5 c6 d7", true}, {chain, "b1 c2 d3 c4 d5 d6", true}, {chain, "b1 c2 d4", false}, {chain, "a1 b2 c3 c4 d5", false},
		// Calls that end badly.
		{deep, "d1", false}, {deep, "a1 c2 d3", false}, {deep, "d1 d2 d3 d4 d5 d6 d7", false}, {deep, "d1 d2 d3 d4 d5 d6 d7 d8", false}, {deep, "a1 c2 b3", true}, {deep, "a1 c2 d3 b4", false},
		{below, "a1", false}, {below, "b1 a2", true}, {below, "b1 a2 a3", false}, {below, "b1 a2 b3 a4", true}, {below, "b1 a2 a3 b4", false}, {below, "a1 b2", false},
		{firstFull, "a1 b2 b3 c4 c5 c6 c7", false}, {firstFull, "a1", false}, {firstFull, "e1 d2", true}, {firstFull, "b1 b2 b3 b4 b5", true}, {firstFull, "b1 b2 b3 b4 b5 c6", false},
		// 24 happened: the last one may be raised, but raises nothing.
		{chain, row24 + " b24", false}, {"x 0 0 0 100 0 1 b a", row24 + " c24", true}, {"x 0 0 0 100 0 1 b a", row24 + " a24", false}, {"x 0 0 0 100 0 1 b c", row24 + " c24", false}, {"x 0 0 0 100 0 1 d e", strings.Replace(row24, "b23", "e23", 1) + " d24", true}, {"x 0 0 0 100 0 1 d e", strings.Replace(row24, "b23", "e23", 1) + " e24", false},
		// Only what its number lets follow raises anything.
		{"up 5 0 5 9 1 2 c a", "a1=4 c2=4", true}, {"up 5 0 5 9 1 2 c a", "a1=4", true}, {"up 5 0 5 9 1 2 c a", "a1=5", false}, {"up 5 0 5 9 1 2 c a", "a1=5 c2=5", true}, {"up 5 0 5 9 1 2 c a", "a1=9 c2=9 a3=10 c4=9", true},
		// What is due raises by the call behind it.
		{"p 0 0 0 100 0 1 e plus 3 a", "a1 b2 c4 e5", true}, {"p 0 0 0 100 0 1 e plus 3 a", "a1 b2 c3 e4", false}, {"p 0 0 0 100 0 1 e plus 3 a", "a1 b2 c3 e4 e5", true}, {"p 0 0 0 100 0 1 e plus 3 a", "a1 b2 c4", false}, {"p 0 0 0 100 0 1 e plus 3 a", "a1 b2 c3", true}, {"p 0 0 0 100 0 1 e plus 3 a", "a1 b2 e5", false}, {"p 0 0 0 100 0 1 e plus 3 a", "a1=7 b2 e5=7 e6=7", true},
	} {
		rules, events := rulesOf(t, c.rules), evsOf(t, c.events)
		if e, ok := holdLoad(t, rules, events); ok != c.want || !ok && textEng(e) != textEng(impl.Eng{}) {
			t.Errorf("%s: TapeLoad of %s: %s, %v", c.rules, c.events, textEng(e), ok)
		}
	}
}

// loadRun is a run, its engine, and for each event whether it was raised.
type loadRun struct {
	rules  []impl.Rule
	good   []impl.Call
	eng    impl.Eng
	raised []bool
}

// someRuns is runs in which events were raised.
func someRuns(t *testing.T, r *rand.Rand, many int) []loadRun {
	t.Helper()
	var runs []loadRun
	for len(runs) < many {
		run := loadRun{rules: someRules(r)}
		calls := someCalls(r)
		calls = calls[:min(len(calls), 8)]
		e := openModel(run.rules)
		for _, c := range calls {
			next, code, _ := callModel(findsByGraph, e, c.Sym, c.Gap, c.Val)
			if code != 0 {
				continue
			}
			run.good = append(run.good, c)
			for place := range next.Events[len(e.Events):] {
				run.raised = append(run.raised, place > 0)
			}
			e = next
		}
		run.eng = e
		if slices.Contains(run.raised, true) {
			runs = append(runs, run)
		}
	}
	return runs
}

// later is events, those from a place on later by a time.
func later(events []impl.Ev, place, by int) []impl.Ev {
	events = slices.Clone(events)
	for i := place; i < len(events); i++ {
		events[i].At += by
	}
	return events
}

// P10: events of which one is left out, changed, put in or cut off are made anew only where calls bring them about, and never if that one was raised.
func TestTapeLoadNear(t *testing.T) {
	r := rand.New(rand.NewSource(106))
	made, refused := 0, 0
	for _, run := range someRuns(t, r, 70) {
		events := run.eng.Events
		if e, ok := holdLoad(t, run.rules, events); !ok || textEng(e) != textEng(run.eng) || !impl.EngSame(e, run.eng) {
			t.Fatalf("%v of %v: %s, want %s", events, run.rules, textEng(e), textEng(run.eng))
		}
		hold := func(name string, place int, never bool, changed []impl.Ev) {
			t.Helper()
			_, ok := holdLoad(t, run.rules, changed)
			if ok && never {
				t.Fatalf("%s at %d: %v of %v is made of %v", name, place, changed, run.rules, events)
			}
			if ok {
				made++
			} else {
				refused++
			}
		}
		for place, e := range events {
			raised := run.raised[place]
			hold("left out", place, raised, slices.Delete(slices.Clone(events), place, place+1))
			hold("left out, and all later by 1 less", place, raised && (place == len(events)-1 || events[place+1].Sym != e.Sym || events[place+1].Val != e.Val), slices.Delete(later(events, place+1, -1), place, place+1))
			hold("cut off", place, raised, events[:place])
			for i, other := range []impl.Ev{{Sym: (e.Sym + 1) % 5, At: e.At, Val: e.Val}, {Sym: e.Sym, At: e.At, Val: (e.Val + 1) % 101}, {Sym: e.Sym, At: e.At + 1, Val: e.Val}, {Sym: e.Sym, At: e.At - 1, Val: e.Val}} {
				changed := slices.Clone(events)
				changed[place] = other
				hold(fmt.Sprint("changed ", i), place, raised, changed)
			}
			hold("all later", place, raised, later(events, place, 1))
			hold("gap", place, true, later(events, place, 20))
			for sym := range 5 {
				ahead := impl.Ev{Sym: sym, At: e.At, Val: e.Val}
				hold("ahead", place, raised && ahead != e, slices.Insert(later(events, place, 1), place, ahead))
			}
		}
	}
	if made < 400 || refused < 3000 {
		t.Errorf("only %d were made, %d refused", made, refused)
	}
}

// P10: an event that no rule raises, behind all that a call raised, is one more call.
func TestTapeLoadOneMore(t *testing.T) {
	r := rand.New(rand.NewSource(107))
	fine, bad := 0, 0
	for _, run := range someRuns(t, r, 150) {
		for range 6 {
			c := impl.Call{Sym: r.Intn(5), Gap: 1 + r.Intn(20), Val: r.Intn(7)}
			want, code, _ := impl.EngCall(run.eng, c.Sym, c.Gap, c.Val)
			if len(run.eng.Events) == 24 {
				continue
			}
			called := append(slices.Clone(run.eng.Events), impl.Ev{Sym: c.Sym, At: lastAt(run.eng.Events) + c.Gap, Val: c.Val})
			e, ok := holdLoad(t, run.rules, called)
			if alone := code == 0 && len(want.Events) == len(called); ok != alone {
				t.Fatalf("%v: %v, made %v, want %v", run.rules, called, ok, alone)
			}
			if ok && textEng(e) != textEng(want) {
				t.Fatalf("%v: %s, want %s", called, textEng(e), textEng(want))
			}
			if code != 0 {
				bad++
				continue
			}
			fine++
			e, ok = holdLoad(t, run.rules, want.Events)
			again, _ := impl.TapeRun(run.rules, append(slices.Clone(run.good), c))
			if !ok || textEng(e) != textEng(want) || textEng(again) != textEng(want) {
				t.Fatalf("%v: %s, %s, want %s", want.Events, textEng(e), textEng(again), textEng(want))
			}
		}
	}
	if fine < 300 || bad < 30 {
		t.Errorf("only %d are fine, %d end badly", fine, bad)
	}
}

// Any events of any rules: what is made is what the model makes.
func TestTapeLoadSome(t *testing.T) {
	r := rand.New(rand.NewSource(108))
	made := 0
	for range 4000 {
		events := some(r)
		for i := range events {
			if r.Intn(3) > 0 {
				events[i].Val = 0
			}
		}
		if _, ok := holdLoad(t, someRules(r), events[:min(len(events), r.Intn(9))]); ok {
			made++
		}
	}
	if made < 400 {
		t.Errorf("only %d were made", made)
	}
}

// callMemory is the memory of a list of calls.
func callMemory(name string, calls []impl.Call) memory {
	calls = calls[:cap(calls)]
	return memory{name, func() string { return fmt.Sprint(calls) }, func() {
		for i := range calls {
			calls[i] = impl.Call{Sym: -9, Gap: -9, Val: -9}
		}
	}}
}

// evMemory is the memory of a list of events.
func evMemory(name string, events []impl.Ev) memory {
	events = events[:cap(events)]
	return memory{name, func() string { return fmt.Sprint(events) }, func() {
		for i := range events {
			events[i] = impl.Ev{Sym: -9, At: -9, Val: -9}
		}
	}}
}

// Nothing is written into an argument or behind its end, and what is answered is new memory.
func TestTapeMemory(t *testing.T) {
	for _, rules := range append(memoryRules(), rulesOf(t, "up 5 0 0 100 1 2 c a; loop 1 0 0 100 2 0 d d; two 1 0 0 100 2 0 - seq a c")) {
		for _, tape := range []string{"", "a1", "a1 b2=5 d1 a3 d1", "d1 d1"} {
			calls := callsOf(t, tape)
			holdApart(t, func() []memory {
				in, row := roomyRules(rules), append(slices.Clone(calls), impl.Call{Gap: 70}, impl.Call{Gap: 71})[:len(calls)]
				lists := append(ruleMemory("the rules handed in", in), callMemory("the calls handed in", row))
				before := texts(lists)
				impl.TapeOk(row)
				impl.TapeText(row)
				a, aEnded := impl.TapeRun(in, row)
				b, bEnded := impl.TapeRun(in, row)
				good, again := impl.TapeGood(in, row), impl.TapeGood(in, row)
				if !slices.Equal(texts(lists), before) {
					t.Fatalf("%v or %v is changed", rules, calls)
				}
				for i := range a.Rules {
					if unsafe.StringData(a.Rules[i].Name) == unsafe.StringData(in[i].Name) {
						t.Fatalf("%s: the name is that which was handed in", in[i].Name)
					}
				}
				lists = append(append(lists, engMemory("a", a)...), engMemory("b", b)...)
				return append(lists, idMemory("codes of a", aEnded), idMemory("codes of b", bEnded), callMemory("good", good), callMemory("good again", again))
			})
		}
	}
}

// And so it is with what is made anew.
func TestTapeLoadMemory(t *testing.T) {
	for _, rules := range append(memoryRules(), rulesOf(t, "up 5 0 0 100 1 2 c a; loop 1 0 0 100 2 0 d d; two 1 0 0 100 2 0 - seq a c")) {
		for _, text := range []string{"", "b1", "a1", "a1 c2 a3 c4 b5", "a1 c2 d3", "a1 c2 b40"} {
			events := evsOf(t, text)
			holdApart(t, func() []memory {
				in, row := roomyRules(rules), append(slices.Clone(events), impl.Ev{Sym: 2, At: 2}, impl.Ev{At: 71})[:len(events)]
				lists := append(ruleMemory("the rules handed in", in), evMemory("the events handed in", row))
				before := texts(lists)
				a, _ := impl.TapeLoad(in, row)
				b, _ := impl.TapeLoad(in, row)
				if !slices.Equal(texts(lists), before) {
					t.Fatalf("%v or %v is changed", rules, events)
				}
				for i := range a.Rules {
					if unsafe.StringData(a.Rules[i].Name) == unsafe.StringData(in[i].Name) {
						t.Fatalf("%s: the name is that which was handed in", in[i].Name)
					}
				}
				return append(append(lists, engMemory("a", a)...), engMemory("b", b)...)
			})
		}
	}
}

// What is read from a text twice shares no memory.
func TestTapeReadMemory(t *testing.T) {
	for _, text := range []string{"", "a1", "a1 b2=5 d1 a3 d1", impl.TapeText(longest())} {
		holdApart(t, func() []memory {
			a, aOk := impl.TapeRead(text)
			b, bOk := impl.TapeRead(text)
			if !aOk || !bOk || impl.TapeText(a) != text || impl.TapeText(b) != text {
				t.Fatalf("%q: %v, %v", text, a, b)
			}
			return []memory{callMemory("a", a), callMemory("b", b)}
		})
	}
}

// Nothing is kept between two calls: all is as at first, as often as one likes, in turn with others.
func TestTapeKeepsNothing(t *testing.T) {
	all := []string{"up 5 0 0 100 1 2 c a; loop 1 0 0 100 2 0 d d", "down 5 0 0 100 0 -3 - a; up 5 0 0 100 0 5 - b", firstFull}
	var first []string
	for turn := range 5 {
		var answers []string
		for _, lines := range all {
			rules := rulesOf(t, lines)
			for _, tape := range []string{"", "a1 b1 d1 a1 a1", "d1 b1 a1", "wrong", "e1 a1 e1"} {
				calls, ok := impl.TapeRead(tape)
				e, ended := impl.TapeRun(rules, calls)
				loaded, made := impl.TapeLoad(rules, e.Events)
				lost, none := impl.TapeLoad(rules, evsOf(t, "d1 a2 b3"))
				answers = append(answers, fmt.Sprint(calls, ok, textEng(e), ended, impl.TapeGood(rules, calls), textEng(loaded), made, textEng(lost), none))
			}
		}
		if turn == 0 {
			first = answers
		}
		if !slices.Equal(answers, first) {
			t.Fatalf("turn %d: %v, at first %v", turn, answers, first)
		}
	}
}
