package tests

import (
	"math"
	"math/rand"
	"regexp"
	"strconv"
	"strings"
	"testing"

	"loop.example/bellman/impl"
)

// one is an event of the first kind at a time.
func one(at int) impl.Ev { return impl.Ev{At: at} }

// row is n events, one time unit behind the other, from 1 on.
func row(n int) []impl.Ev {
	var list []impl.Ev
	for at := 1; at <= n; at++ {
		list = append(list, one(at))
	}
	return list
}

// full is as many events as there may be, each with as long a text as it may have.
func full() []impl.Ev {
	var list []impl.Ev
	for at := 977; at <= 1000; at++ {
		list = append(list, impl.Ev{Sym: at % 5, At: at, Val: 100})
	}
	return list
}

// same holds two lists against each other without the program's help.
func same(a, b []impl.Ev) bool {
	if len(a) != len(b) {
		return false
	}
	for i := range a {
		if a[i].Sym != b[i].Sym || a[i].At != b[i].At || a[i].Val != b[i].Val {
			return false
		}
	}
	return true
}

var word = regexp.MustCompile(`\A([a-e])([1-9][0-9]{0,3})(?:=([1-9][0-9]{0,2}))?\z`)

// readByWords reads a text in another way than the program does: word by word, by a pattern.
func readByWords(text string) ([]impl.Ev, bool) {
	if text == "" {
		return nil, true
	}
	words := strings.Split(text, " ")
	if len(text) > 300 || len(words) > 24 {
		return nil, false
	}
	var list []impl.Ev
	last := 0
	for _, w := range words {
		m := word.FindStringSubmatch(w)
		if m == nil {
			return nil, false
		}
		at, _ := strconv.Atoi(m[2])
		val, _ := strconv.Atoi(m[3]) // 0 of none
		if at <= last || at > 1000 || val > 100 {
			return nil, false
		}
		last = at
		list = append(list, impl.Ev{Sym: strings.Index("abcde", m[1]), At: at, Val: val})
	}
	return list, true
}

// holdRead holds what the program reads from a text against what readByWords does.
func holdRead(t *testing.T, text string) {
	t.Helper()
	want, wantOk := readByWords(text)
	got, ok := impl.EvsRead(text)
	if ok != wantOk || !same(got, want) {
		t.Fatalf("EvsRead(%q) = %v, %v; want %v, %v", text, got, ok, want, wantOk)
	}
}

func TestEvBounds(t *testing.T) {
	if impl.EvSyms != 5 || impl.EvMax != 24 || impl.EvTime != 1000 || impl.EvVal != 100 {
		t.Error("bounds of the document")
	}
}

func TestEvOk(t *testing.T) {
	for _, c := range []struct {
		e    impl.Ev
		want bool
	}{
		{impl.Ev{Sym: 2, At: 500, Val: 50}, true},
		{impl.Ev{}, false},
		{impl.Ev{Sym: 0, At: 1}, true},
		{impl.Ev{Sym: -1, At: 1}, false},
		{impl.Ev{Sym: 4, At: 1}, true},
		{impl.Ev{Sym: 5, At: 1}, false},
		{impl.Ev{At: 0}, false},
		{impl.Ev{At: -1}, false},
		{impl.Ev{At: 1000}, true},
		{impl.Ev{At: 1001}, false},
		{impl.Ev{At: 1, Val: 0}, true},
		{impl.Ev{At: 1, Val: -1}, false},
		{impl.Ev{At: 1, Val: 100}, true},
		{impl.Ev{At: 1, Val: 101}, false},
		{impl.Ev{Sym: 4, At: 1000, Val: 100}, true},
		{impl.Ev{Sym: math.MinInt, At: 1}, false},
		{impl.Ev{Sym: math.MaxInt, At: 1}, false},
		{impl.Ev{At: math.MinInt}, false},
		{impl.Ev{At: math.MaxInt}, false},
		{impl.Ev{At: 1, Val: math.MinInt}, false},
		{impl.Ev{At: 1, Val: math.MaxInt}, false},
	} {
		if got := impl.EvOk(c.e); got != c.want {
			t.Errorf("EvOk(%v) = %v", c.e, got)
		}
	}
}

func TestEvsOk(t *testing.T) {
	wrong := impl.Ev{Sym: 5, At: 2}
	for name, c := range map[string]struct {
		list []impl.Ev
		want bool
	}{
		"nil":                {nil, true},
		"empty":              {[]impl.Ev{}, true},
		"one":                {row(1), true},
		"some":               {[]impl.Ev{{Sym: 4, At: 1}, {Sym: 0, At: 3, Val: 5}, {Sym: 4, At: 1000}}, true},
		"most":               {row(24), true},
		"one too many":       {row(25), false},
		"longest":            {full(), true},
		"two at one time":    {[]impl.Ev{one(1), one(1)}, false},
		"two kinds at one":   {[]impl.Ev{{Sym: 0, At: 7}, {Sym: 1, At: 7}}, false},
		"two numbers at one": {[]impl.Ev{{At: 7, Val: 1}, {At: 7, Val: 2}}, false},
		"last two at one":    {append(row(5), one(5)), false},
		"out of order":       {[]impl.Ev{one(2), one(1)}, false},
		"last out of order":  {append(row(5), one(4)), false},
		"up and down":        {[]impl.Ev{one(1), one(9), one(5), one(10)}, false},
		"first wrong":        {[]impl.Ev{wrong, one(3)}, false},
		"middle wrong":       {[]impl.Ev{one(1), wrong, one(3)}, false},
		"last wrong":         {[]impl.Ev{one(1), wrong}, false},
		"first at 0":         {[]impl.Ev{one(0), one(1)}, false},
		"last past the end":  {[]impl.Ev{one(1000), one(1001)}, false},
		"number above":       {[]impl.Ev{{At: 1, Val: 101}}, false},
	} {
		if got := impl.EvsOk(c.list); got != c.want {
			t.Errorf("%s: EvsOk(%v) = %v", name, c.list, got)
		}
	}
}

func TestEvsSame(t *testing.T) {
	base := []impl.Ev{{Sym: 0, At: 1}, {Sym: 1, At: 3, Val: 5}}
	for name, c := range map[string]struct {
		a, b []impl.Ev
		want bool
	}{
		"nil and empty":     {nil, []impl.Ev{}, true},
		"itself":            {base, base, true},
		"as another list":   {base, []impl.Ev{{Sym: 0, At: 1}, {Sym: 1, At: 3, Val: 5}}, true},
		"wrong ones":        {[]impl.Ev{{Sym: -7, At: -1}}, []impl.Ev{{Sym: -7, At: -1}}, true},
		"another kind":      {base, []impl.Ev{{Sym: 0, At: 1}, {Sym: 2, At: 3, Val: 5}}, false},
		"another time":      {base, []impl.Ev{{Sym: 0, At: 2}, {Sym: 1, At: 3, Val: 5}}, false},
		"another number":    {base, []impl.Ev{{Sym: 0, At: 1}, {Sym: 1, At: 3}}, false},
		"another order":     {base, []impl.Ev{base[1], base[0]}, false},
		"a beginning":       {base, base[:1], false},
		"none":              {base, nil, false},
		"both of no letter": {[]impl.Ev{{Sym: -1}}, []impl.Ev{{Sym: 5}}, false}, // of one text, yet not the same
	} {
		if impl.EvsSame(c.a, c.b) != c.want || impl.EvsSame(c.b, c.a) != c.want {
			t.Errorf("%s: want %v", name, c.want)
		}
	}
}

func TestEvsText(t *testing.T) {
	for _, c := range []struct {
		list []impl.Ev
		want string
	}{
		{nil, ""},
		{[]impl.Ev{}, ""},
		{[]impl.Ev{{Sym: 0, At: 1}, {Sym: 1, At: 3, Val: 5}, {Sym: 4, At: 1000}}, "a1 b3=5 e1000"},
		{[]impl.Ev{{Sym: 2, At: 10, Val: 100}, {Sym: 3, At: 20, Val: 0}}, "c10=100 d20"},
		{[]impl.Ev{{Sym: 5, At: 1}, {Sym: -1, At: 2, Val: 3}}, "?1 ?2=3"},
		{[]impl.Ev{{Sym: math.MinInt, At: 1}, {Sym: math.MaxInt, At: 1}, {Sym: 256, At: 1}}, "?1 ?1 ?1"},
		{[]impl.Ev{{At: 0}, {At: -4, Val: -12}, {At: 1001, Val: 101}}, "a0 a-4=-12 a1001=101"},
		{[]impl.Ev{{At: 9}, {At: 9}, {At: 8}}, "a9 a9 a8"},
		{[]impl.Ev{{At: math.MinInt, Val: math.MaxInt}}, "a" + strconv.Itoa(math.MinInt) + "=" + strconv.Itoa(math.MaxInt)},
		{row(25), "a1 a2 a3 a4 a5 a6 a7 a8 a9 a10 a11 a12 a13 a14 a15 a16 a17 a18 a19 a20 a21 a22 a23 a24 a25"},
	} {
		if got := impl.EvsText(c.list); got != c.want {
			t.Errorf("EvsText(%v) = %q, want %q", c.list, got, c.want)
		}
	}
}

func TestEvsReadTells(t *testing.T) {
	for text, want := range map[string][]impl.Ev{
		"":                    nil,
		"a1":                  {{Sym: 0, At: 1}},
		"e1000=100":           {{Sym: 4, At: 1000, Val: 100}},
		"a1 b3=5 e1000":       {{Sym: 0, At: 1}, {Sym: 1, At: 3, Val: 5}, {Sym: 4, At: 1000}},
		"c10=1 d11=10 a12":    {{Sym: 2, At: 10, Val: 1}, {Sym: 3, At: 11, Val: 10}, {Sym: 0, At: 12}},
		impl.EvsText(row(24)): row(24),
		impl.EvsText(full()):  full(),
	} {
		got, ok := impl.EvsRead(text)
		if !ok || !same(got, want) {
			t.Errorf("EvsRead(%q) = %v, %v", text, got, ok)
		}
		holdRead(t, text)
	}
}

func TestEvsReadRefuses(t *testing.T) {
	for _, text := range []string{
		// nearly events
		"a", "1", "=", "=5", "a=5", "a1=", "a1==5", "a1=5=5", "1a", "ab1", "a1b2", "a1,b2", "a1\tb2", "a1\nb2",
		" ", "  ", " a1", "a1 ", "a1  b2", "a1 b2 ", "a1 =5", "a1= 5", "a 1", "a1\n", "\na1", "a1\x00", "\x00",
		"A1", "f1", "`1", "?1", "-1", "a-1", "a+1", "a1=-1", "a1=+1", "a1.0", "a1e1", "a0x1", "a1_0",
		// needless zeros, and a number that is 0
		"a01", "a001", "a1=0", "a1=00", "a1=05", "a1=050", "a00",
		// bounds passed by one, and by much
		"a0", "a1001", "a1=101", "a10000", "a1=1000", "a99999999999999999999", "a18446744073709551617", "a1=18446744073709551617", "a4294967297", "a1=4294967297",
		// two at one time, and out of order
		"a1 a1", "a1 b1", "a1=1 a1=2", "a2 a1", "a1 b3 c2", "a10 a9",
		// one that is wrong among others
		"a0 b1", "a1 f2 c3", "a1 b2 c", "a1 b2=101 c3", "a999 b1000 c1001",
		// other letters and digits of the world
		"\u00e41", "a\u0661", "\uff41\uff11", "a1\u00a0b2", "\xff", "a1\xff", "\xe11", "a1=\xb5",
		impl.EvsText(row(25)),
	} {
		if got, ok := impl.EvsRead(text); ok || len(got) != 0 {
			t.Errorf("EvsRead(%q) = %v, %v", text, got, ok)
		}
		holdRead(t, text)
	}
}

// What is not ok has a text, but none is read from it.
func TestEvsReadOfWrong(t *testing.T) {
	for _, list := range [][]impl.Ev{
		{{Sym: 5, At: 1}}, {{Sym: -1, At: 1}}, {{At: 0}}, {{At: -3}}, {{At: 1001}}, {{At: 1, Val: -1}}, {{At: 1, Val: 101}},
		{one(4), one(4)}, {one(4), one(3)}, row(25), {{At: math.MinInt, Val: math.MinInt}}, {{At: math.MaxInt, Val: math.MaxInt}},
	} {
		if got, ok := impl.EvsRead(impl.EvsText(list)); ok || len(got) != 0 {
			t.Errorf("%v: EvsRead = %v, %v", list, got, ok)
		}
	}
}

func TestEvsReadLong(t *testing.T) {
	for _, size := range []int{299, 300, 301, 302, 1000, 1 << 20} {
		for name, piece := range map[string]string{"spaces": " ", "digits": "1", "zeros": "0", "letters": "a", "signs": "=", "words": "a1 ", "bytes": "\xff"} {
			for _, head := range []string{"", "a1", "a1=", "a1 ", impl.EvsText(full()), impl.EvsText(full()) + " "} {
				text := head + strings.Repeat(piece, size)[:size-len(head)]
				if got, ok := impl.EvsRead(text); ok || len(got) != 0 {
					t.Errorf("%d bytes, %s behind %q: %v, %v", size, name, head, got, ok)
				}
			}
		}
	}
	// Too many events, each ok, in just 300 bytes and in one more.
	for val, size := range map[int]int{5: 300, 50: 301} {
		list := row(77)
		list[0].Val = val
		text := impl.EvsText(list)
		if len(text) != size {
			t.Fatalf("%d bytes, want %d", len(text), size)
		}
		if got, ok := impl.EvsRead(text); ok || len(got) != 0 {
			t.Errorf("%d bytes: %v, %v", size, got, ok)
		}
	}
}

// P1: each event there may be is read from its text as it was.
func TestEvEachIsReadAsItWas(t *testing.T) {
	for sym := 0; sym < 5; sym++ {
		for at := 1; at <= 1000; at++ {
			for val := 0; val <= 100; val++ {
				e := impl.Ev{Sym: sym, At: at, Val: val}
				got, ok := impl.EvsRead(impl.EvsText([]impl.Ev{e}))
				if !ok || len(got) != 1 || got[0] != e {
					t.Fatalf("%v: %v, %v", e, got, ok)
				}
			}
		}
	}
}

// some is a list that is ok, made by a source with a fixed start.
func some(r *rand.Rand) []impl.Ev {
	var list []impl.Ev
	at := 0
	for n := r.Intn(25); n > 0; n-- {
		at += 1 + r.Intn([]int{1, 5, 41}[r.Intn(3)])
		val := 0
		if r.Intn(2) == 0 {
			val = r.Intn(101)
		}
		list = append(list, impl.Ev{Sym: r.Intn(5), At: at, Val: val})
	}
	return list
}

// P1: and so are lists of any size; no two of them have one text.
func TestEvsAreReadAsTheyWere(t *testing.T) {
	r := rand.New(rand.NewSource(1))
	texts := map[string][]impl.Ev{}
	for i := 0; i < 20000; i++ {
		list := some(r)
		text := impl.EvsText(list)
		got, ok := impl.EvsRead(text)
		if !impl.EvsOk(list) || !ok || !same(got, list) || !impl.EvsSame(got, list) {
			t.Fatalf("%v: %q, %v, %v", list, text, got, ok)
		}
		if other, known := texts[text]; known && !same(other, list) {
			t.Fatalf("%v and %v: %q", other, list, text)
		}
		texts[text] = list
		holdRead(t, text)
	}
}

// All short texts of the bytes that matter.
func TestEvsReadShortTexts(t *testing.T) {
	const bytes = "aef?01= -"
	texts := []string{""}
	for size := 0; size <= 6; size++ {
		var longer []string
		for _, text := range texts {
			holdRead(t, text)
			if size < 6 {
				for _, b := range bytes {
					longer = append(longer, text+string(b))
				}
			}
		}
		texts = longer
	}
}

func TestEvsReadNearTexts(t *testing.T) {
	for _, text := range []string{"a1 b3=5 e1000", "c999=100 d1000=99", "a1 b2 c3", "e10=10 a11", impl.EvsText(row(24)), impl.EvsText(full())} {
		nearTexts(text, func(near string) {
			t.Helper()
			holdRead(t, near)
		})
	}
}

// Any bytes at all.
func TestEvsReadAnyBytes(t *testing.T) {
	r := rand.New(rand.NewSource(2))
	for i := 0; i < 50000; i++ {
		b := make([]byte, r.Intn(20))
		for j := range b {
			b[j] = byte(r.Intn(256))
		}
		holdRead(t, string(b))
		text := []byte(impl.EvsText(some(r)))
		for n := r.Intn(4); n > 0 && len(text) > 0; n-- {
			text[r.Intn(len(text))] = "abcdef0123456789= ?-\x00\xff"[r.Intn(22)]
		}
		holdRead(t, string(text))
	}
}

func TestEvsTill(t *testing.T) {
	list := []impl.Ev{{Sym: 0, At: 1}, {Sym: 1, At: 3, Val: 5}, {Sym: 4, At: 1000}}
	for at, want := range map[int]int{math.MinInt: 0, -1: 0, 0: 0, 1: 1, 2: 1, 3: 2, 4: 2, 999: 2, 1000: 3, 1001: 3, math.MaxInt: 3} {
		if got := impl.EvsTill(list, at); !same(got, list[:want]) {
			t.Errorf("EvsTill(%d) = %v", at, got)
		}
	}
	if len(impl.EvsTill(nil, 5)) != 0 || len(impl.EvsTill([]impl.Ev{}, 5)) != 0 {
		t.Error("of none")
	}
	if got := impl.EvsTill(row(30), 28); !same(got, row(28)) {
		t.Errorf("of more than there may be: %v", got)
	}
	wrong := []impl.Ev{{Sym: 9, At: 5}, {Sym: 1, At: 2, Val: -4}, {Sym: 2, At: 7}, {Sym: 3, At: -1}, {Sym: 4, At: 5}}
	if got := impl.EvsTill(wrong, 5); !same(got, []impl.Ev{wrong[0], wrong[1], wrong[3], wrong[4]}) {
		t.Errorf("out of order: %v", got)
	}
}

// An answer is new memory, spare room included, and nothing is written into an argument or behind its end.
func TestEvsMemory(t *testing.T) {
	store := []impl.Ev{{Sym: 0, At: 1}, {Sym: 1, At: 3, Val: 5}, {Sym: 4, At: 9}, {Sym: 2, At: 70, Val: 7}, {Sym: 3, At: 80, Val: 8}}
	kept := append([]impl.Ev(nil), store...)
	list := store[:3]
	impl.EvsOk(list)
	impl.EvsSame(list, store[1:2])
	impl.EvsText(list)
	for _, at := range []int{0, 1, 5, 9, 100} {
		got := impl.EvsTill(list, at)
		got = got[:cap(got)]
		for i := range got {
			got[i] = impl.Ev{Sym: -9, At: -9, Val: -9}
		}
	}
	if !same(store, kept) {
		t.Errorf("the argument is changed: %v", store)
	}
	a, _ := impl.EvsRead("a1 b2 c3")
	b, _ := impl.EvsRead("a1 b2 c3")
	a = a[:cap(a)]
	for i := range a {
		a[i] = impl.Ev{Sym: -9, At: -9, Val: -9}
	}
	c, ok := impl.EvsRead("a1 b2 c3")
	want := []impl.Ev{{Sym: 0, At: 1}, {Sym: 1, At: 2}, {Sym: 2, At: 3}}
	if !ok || !same(b, want) || !same(c, want) {
		t.Errorf("answers share memory: %v, %v", b, c)
	}
}
