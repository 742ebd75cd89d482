package tests

import (
	"encoding/binary"
	"fmt"
	"math"
	"math/rand"
	"slices"
	"sort"
	"strings"
	"testing"

	"loop.example/bellman/impl"
)

// occ is a place.
func occ(from int, to int, ids ...int) impl.Occ { return impl.Occ{From: from, To: to, Ids: ids} }

// upTo is the numbers from 0 on, n of them.
func upTo(n int) []int {
	var list []int
	for i := range n {
		list = append(list, i)
	}
	return list
}

// occRow is n places that are ok, in order.
func occRow(n int) []impl.Occ {
	var list []impl.Occ
	for i := range n {
		list = append(list, occ(5, 10+i/2, i%2, 7))
	}
	return list
}

// copiedOccs is the same in memory of its own, without spare room.
func copiedOccs(list []impl.Occ) []impl.Occ {
	copies := make([]impl.Occ, len(list))
	for i, o := range list {
		ids := make([]int, len(o.Ids))
		copy(ids, o.Ids)
		copies[i] = occ(o.From, o.To, ids...)
	}
	return copies
}

// occKey is a text whose order, byte by byte, is that of places: all numbers have one size in it.
func occKey(o impl.Occ) string {
	var key []byte
	for _, n := range append([]int{o.To, o.From}, o.Ids...) {
		key = binary.BigEndian.AppendUint64(key, uint64(n)^(1<<63))
	}
	return string(key)
}

// sameOccs holds two lists against each other without the program's help.
func sameOccs(a, b []impl.Occ) bool {
	if len(a) != len(b) {
		return false
	}
	for i := range a {
		if occKey(a[i]) != occKey(b[i]) {
			return false
		}
	}
	return true
}

// okOcc is OccOk, told otherwise: the Ids are just what a search for each of them finds.
func okOcc(o impl.Occ) bool {
	var ids []int
	for id := range 24 {
		if slices.Contains(o.Ids, id) {
			ids = append(ids, id)
		}
	}
	return len(ids) > 0 && slices.Equal(ids, o.Ids) && o.From > 0 && o.To >= o.From && o.To < 2001
}

// okOccs is OccsOk, told otherwise.
func okOccs(list []impl.Occ) bool {
	for i, o := range list {
		if !okOcc(o) || i > 0 && occKey(list[i-1]) >= occKey(o) {
			return false
		}
	}
	return len(list) < 41
}

// joinOcc is OccJoin, told otherwise.
func joinOcc(a, b impl.Occ) impl.Occ {
	if !okOcc(a) || !okOcc(b) {
		return impl.Occ{}
	}
	ids := append(slices.Clone(a.Ids), b.Ids...)
	sort.Ints(ids)
	return occ(min(a.From, b.From), max(a.To, b.To), slices.Compact(ids)...)
}

// putOcc is OccsPut, told otherwise: behind all, and then all are sorted.
func putOcc(list []impl.Occ, o impl.Occ) []impl.Occ {
	if !okOccs(list) || !okOcc(o) {
		return nil
	}
	put := append(copiedOccs(list), o)
	sort.Slice(put, func(i, j int) bool { return occKey(put[i]) < occKey(put[j]) })
	return slices.CompactFunc(put, func(a, b impl.Occ) bool { return occKey(a) == occKey(b) })
}

// textOccs is OccsText, told otherwise.
func textOccs(list []impl.Occ) string {
	var words []string
	for _, o := range list {
		ids := strings.ReplaceAll(strings.Trim(fmt.Sprint(o.Ids), "[]"), " ", ",")
		words = append(words, fmt.Sprintf("%d-%d(%s)", o.From, o.To, ids))
	}
	return strings.Join(words, " ")
}

// holdPut holds what the program puts in against what putOcc does.
func holdPut(t *testing.T, list []impl.Occ, o impl.Occ) []impl.Occ {
	t.Helper()
	want := putOcc(list, o)
	got := impl.OccsPut(list, o)
	if !sameOccs(got, want) {
		t.Fatalf("OccsPut(%v, %v) = %v, want %v", list, o, got, want)
	}
	return got
}

// holdTwo holds all that the program says of two against what is told otherwise.
func holdTwo(t *testing.T, a, b impl.Occ) {
	t.Helper()
	if impl.OccOk(a) != okOcc(a) {
		t.Fatalf("OccOk(%v) = %v", a, impl.OccOk(a))
	}
	if impl.OccLess(a, b) != (occKey(a) < occKey(b)) {
		t.Fatalf("OccLess(%v, %v) = %v", a, b, impl.OccLess(a, b))
	}
	if got, want := impl.OccJoin(a, b), joinOcc(a, b); occKey(got) != occKey(want) {
		t.Fatalf("OccJoin(%v, %v) = %v, want %v", a, b, got, want)
	}
	two := []impl.Occ{a, b}
	if impl.OccsOk(two) != okOccs(two) {
		t.Fatalf("OccsOk(%v) = %v", two, impl.OccsOk(two))
	}
	if impl.OccsSame(two[:1], two[1:]) != (occKey(a) == occKey(b)) {
		t.Fatalf("OccsSame(%v) = %v", two, impl.OccsSame(two[:1], two[1:]))
	}
	if impl.OccsText(two) != textOccs(two) {
		t.Fatalf("OccsText(%v) = %q", two, impl.OccsText(two))
	}
	holdPut(t, nil, a)
	holdPut(t, two[:1], b)
}

// occEdges is places at the edges of what is ok, each with whether it is.
func occEdges() map[string]struct {
	o    impl.Occ
	want bool
} {
	return map[string]struct {
		o    impl.Occ
		want bool
	}{
		"ordinary":                 {occ(2, 5, 1, 3), true},
		"nothing":                  {impl.Occ{}, false},
		"From 1":                   {occ(1, 5, 0), true},
		"From 0":                   {occ(0, 5, 0), false},
		"From -1":                  {occ(-1, 5, 0), false},
		"From is To":               {occ(7, 7, 0), true},
		"From and To 1":            {occ(1, 1, 0), true},
		"From above To by 1":       {occ(8, 7, 0), false},
		"From and To 0":            {occ(0, 0, 0), false},
		"To of a time":             {occ(1, 1000, 0), true},
		"To above a time":          {occ(1, 1001, 0), true},
		"To 2000":                  {occ(1, 2000, 0), true},
		"To 2001":                  {occ(1, 2001, 0), false},
		"From and To 2000":         {occ(2000, 2000, 0), true},
		"From and To 2001":         {occ(2001, 2001, 0), false},
		"least From":               {occ(math.MinInt, 5, 0), false},
		"greatest From":            {occ(math.MaxInt, 5, 0), false},
		"least To":                 {occ(1, math.MinInt, 0), false},
		"greatest To":              {occ(1, math.MaxInt, 0), false},
		"nil Ids":                  {impl.Occ{From: 1, To: 1}, false},
		"empty Ids":                {impl.Occ{From: 1, To: 1, Ids: []int{}}, false},
		"EvMax Ids":                {occ(1, 1, upTo(24)...), true},
		"EvMax and one more":       {occ(1, 1, upTo(25)...), false},
		"EvMax and one twice":      {occ(1, 1, append(upTo(24), 23)...), false},
		"EvMax and 0 behind":       {occ(1, 1, append(upTo(24), 0)...), false},
		"Id 0":                     {occ(1, 1, 0), true},
		"Id EvMax - 1":             {occ(1, 1, 23), true},
		"Id -1":                    {occ(1, 1, -1), false},
		"Id EvMax":                 {occ(1, 1, 24), false},
		"Id 31":                    {occ(1, 1, 31), false},
		"Id 32":                    {occ(1, 1, 32), false},
		"Id 64":                    {occ(1, 1, 64), false},
		"Id 256":                   {occ(1, 1, 256), false},
		"Id past 32 bits":          {occ(1, 1, 1<<32), false},
		"least Id":                 {occ(1, 1, math.MinInt), false},
		"greatest Id":              {occ(1, 1, math.MaxInt), false},
		"-1 ahead":                 {occ(1, 1, -1, 0, 1), false},
		"EvMax behind":             {occ(1, 1, 22, 23, 24), false},
		"least and greatest":       {occ(1, 1, 0, 23), true},
		"not ascending":            {occ(1, 1, 1, 0), false},
		"not ascending at the end": {occ(1, 1, 1, 5, 9, 8), false},
		"up and down":              {occ(1, 1, 1, 9, 5, 10), false},
		"one twice":                {occ(1, 1, 2, 2), false},
		"one twice at the end":     {occ(1, 1, 1, 2, 2), false},
		"one twice, apart":         {occ(1, 1, 1, 2, 1), false},
		"0 twice":                  {occ(1, 1, 0, 0), false},
		"23 twice":                 {occ(1, 1, 23, 23), false},
		"23 ahead of 22":           {occ(1, 1, 23, 22), false},
		"many":                     {occ(1, 1, upTo(100000)...), false},
		"many of one":              {occ(1, 1, make([]int, 100000)...), false},
	}
}

// wrongOccs is all of occEdges that are not ok, but for the long ones.
func wrongOccs() []impl.Occ {
	var list []impl.Occ
	for _, c := range occEdges() {
		if !c.want && len(c.o.Ids) < 100 {
			list = append(list, c.o)
		}
	}
	sort.Slice(list, func(i, j int) bool { return occKey(list[i]) < occKey(list[j]) })
	return list
}

func TestOccBounds(t *testing.T) {
	if impl.OccMax != 40 {
		t.Error("bound of the document")
	}
}

func TestOccOk(t *testing.T) {
	for name, c := range occEdges() {
		if got := impl.OccOk(c.o); got != c.want || okOcc(c.o) != c.want {
			t.Errorf("%s: OccOk = %v", name, got)
		}
	}
}

// All short lists of the Ids that matter.
func TestOccOkIds(t *testing.T) {
	lists := [][]int{nil}
	for size := 0; size <= 5; size++ {
		var longer [][]int
		for _, ids := range lists {
			o := occ(1, 1, ids...)
			if impl.OccOk(o) != okOcc(o) {
				t.Fatalf("OccOk(%v) = %v", o, impl.OccOk(o))
			}
			for _, id := range []int{-1, 0, 1, 2, 22, 23, 24, 32} {
				longer = append(longer, append(slices.Clone(ids), id))
			}
		}
		lists = longer
	}
}

// All times near the edges.
func TestOccOkTimes(t *testing.T) {
	times := []int{math.MinInt, -2000, -1, 0, 1, 2, 3, 999, 1000, 1001, 1999, 2000, 2001, 2002, 4000, math.MaxInt}
	for _, from := range times {
		for _, to := range times {
			o := occ(from, to, 4)
			if want := from >= 1 && from <= to && to <= 2000; impl.OccOk(o) != want {
				t.Errorf("OccOk(%v) = %v", o, !want)
			}
		}
	}
}

func TestOccLess(t *testing.T) {
	for name, c := range map[string]struct{ a, b impl.Occ }{
		"To":                          {occ(5, 6, 5), occ(1, 7, 0)},
		"To by digits":                {occ(1, 9, 0), occ(1, 10, 0)},
		"To ahead of Ids":             {occ(1, 6, 9, 10), occ(1, 7, 1)},
		"From, of one To":             {occ(1, 3, 5), occ(2, 3, 1)},
		"From ahead of fewer Ids":     {occ(1, 3, 1, 2, 3), occ(2, 3, 1)},
		"first Id":                    {occ(2, 3, 1), occ(2, 3, 2)},
		"first Id, though more":       {occ(2, 3, 1, 9), occ(2, 3, 2)},
		"first Id, though less later": {occ(2, 3, 1, 9, 10), occ(2, 3, 2, 3)},
		"Id by digits":                {occ(2, 3, 9), occ(2, 3, 10)},
		"middle Id":                   {occ(2, 3, 1, 2, 9), occ(2, 3, 1, 3, 4)},
		"last Id":                     {occ(2, 3, 1, 2, 3), occ(2, 3, 1, 2, 4)},
		"fewer, one":                  {occ(2, 3, 1), occ(2, 3, 1, 2)},
		"fewer, some":                 {occ(2, 3, 0, 1, 2), occ(2, 3, 0, 1, 2, 3, 4)},
		"fewer, most":                 {occ(2, 3, upTo(23)...), occ(2, 3, upTo(24)...)},
		"wrong: no Ids":               {occ(2, 3), occ(2, 3, 0)},
		"wrong: To below 0":           {occ(2, -3, 0), occ(2, 3, 0)},
		"wrong: From below 0":         {occ(-2, 3, 0), occ(2, 3, 0)},
		"wrong: Id below 0":           {occ(2, 3, -1), occ(2, 3, 0)},
		"wrong: past the ends":        {occ(2, math.MinInt, 0), occ(2, math.MaxInt, 0)},
		"wrong: From past the ends":   {occ(math.MinInt, 3, 0), occ(math.MaxInt, 3, 0)},
		"wrong: Ids past the ends":    {occ(2, 3, math.MinInt), occ(2, 3, math.MaxInt)},
		"wrong: nothing":              {impl.Occ{}, occ(1, 1, 0)},
		"wrong: Ids not ascending":    {occ(2, 3, 5, 1), occ(2, 3, 5, 4)},
		"wrong: one twice":            {occ(2, 3, 5), occ(2, 3, 5, 5)},
	} {
		if !impl.OccLess(c.a, c.b) {
			t.Errorf("%s: %v is not less than %v", name, c.a, c.b)
		}
		if impl.OccLess(c.b, c.a) || impl.OccLess(c.a, c.a) || impl.OccLess(c.b, c.b) {
			t.Errorf("%s: less the wrong way", name)
		}
		holdTwo(t, c.a, c.b)
		holdTwo(t, c.b, c.a)
	}
	if impl.OccLess(occ(2, 3, 1, 4), occ(2, 3, 1, 4)) || impl.OccLess(impl.Occ{}, impl.Occ{Ids: []int{}}) || impl.OccLess(impl.Occ{Ids: []int{}}, impl.Occ{}) {
		t.Error("less than the same")
	}
}

func TestOccsOk(t *testing.T) {
	first, second, third := occ(1, 4, 0), occ(2, 4, 0), occ(2, 4, 0, 1)
	for name, c := range map[string]struct {
		list []impl.Occ
		want bool
	}{
		"nil":                  {nil, true},
		"empty":                {[]impl.Occ{}, true},
		"one":                  {[]impl.Occ{first}, true},
		"some":                 {[]impl.Occ{first, second, third}, true},
		"OccMax":               {occRow(40), true},
		"one more":             {occRow(41), false},
		"many":                 {occRow(3000), false},
		"the same twice":       {[]impl.Occ{first, first}, false},
		"the same behind":      {[]impl.Occ{first, second, second}, false},
		"the same apart":       {[]impl.Occ{first, second, first}, false},
		"out of order":         {[]impl.Occ{second, first}, false},
		"last out of order":    {[]impl.Occ{first, third, second}, false},
		"To out of order":      {[]impl.Occ{occ(1, 9, 0), occ(2, 8, 1)}, false},
		"From out of order":    {[]impl.Occ{occ(3, 9, 0), occ(2, 9, 1)}, false},
		"Ids out of order":     {[]impl.Occ{occ(3, 9, 1), occ(3, 9, 0)}, false},
		"more Ids ahead":       {[]impl.Occ{occ(3, 9, 1, 2), occ(3, 9, 1)}, false},
		"more Ids behind":      {[]impl.Occ{occ(3, 9, 1), occ(3, 9, 1, 2)}, true},
		"nothing":              {[]impl.Occ{{}}, false},
		"nothing ahead":        {[]impl.Occ{{}, first}, false},
		"wrong in the middle":  {[]impl.Occ{first, occ(1, 5), third}, false},
		"wrong among the last": {append(occRow(39), occ(1, 2001, 0)), false},
		"OccMax, last twice":   {append(occRow(39), occRow(39)[38]), false},
	} {
		if got := impl.OccsOk(c.list); got != c.want || okOccs(c.list) != c.want {
			t.Errorf("%s: OccsOk = %v", name, got)
		}
	}
	for _, wrong := range wrongOccs() {
		for _, list := range [][]impl.Occ{{wrong}, {wrong, occ(2000, 2000, 23)}, {occ(1, 1, 0), wrong}, {occ(1, 1, 0), wrong, occ(2000, 2000, 23)}} {
			if impl.OccsOk(list) {
				t.Errorf("OccsOk(%v)", list)
			}
		}
	}
}

func TestOccsSame(t *testing.T) {
	base := []impl.Occ{occ(2, 4, 0), occ(2, 5, 1, 3)}
	for name, c := range map[string]struct {
		a, b []impl.Occ
		want bool
	}{
		"nil and empty":        {nil, []impl.Occ{}, true},
		"itself":               {base, base, true},
		"as another list":      {base, copiedOccs(base), true},
		"long ones":            {occRow(300), occRow(300), true},
		"wrong ones":           {[]impl.Occ{occ(-7, -9, 3, 3, -1)}, []impl.Occ{occ(-7, -9, 3, 3, -1)}, true},
		"nil and empty Ids":    {[]impl.Occ{{}}, []impl.Occ{{Ids: []int{}}}, true},
		"in no order":          {[]impl.Occ{base[1], base[0]}, []impl.Occ{base[1], base[0]}, true},
		"another order":        {base, []impl.Occ{base[1], base[0]}, false},
		"another From":         {base, []impl.Occ{base[0], occ(3, 5, 1, 3)}, false},
		"another To":           {base, []impl.Occ{base[0], occ(2, 6, 1, 3)}, false},
		"another first":        {base, []impl.Occ{occ(1, 4, 0), base[1]}, false},
		"another Id":           {base, []impl.Occ{base[0], occ(2, 5, 1, 4)}, false},
		"an Id more":           {base, []impl.Occ{base[0], occ(2, 5, 1, 3, 4)}, false},
		"no Ids":               {base, []impl.Occ{base[0], occ(2, 5)}, false},
		"Ids in another order": {base, []impl.Occ{base[0], occ(2, 5, 3, 1)}, false},
		"an Id twice":          {base, []impl.Occ{base[0], occ(2, 5, 1, 3, 3)}, false},
		"a beginning":          {base, base[:1], false},
		"one twice":            {base, []impl.Occ{base[0], base[1], base[1]}, false},
		"none":                 {base, nil, false},
		"none and nothing":     {nil, []impl.Occ{{}}, false},
	} {
		if impl.OccsSame(c.a, c.b) != c.want || impl.OccsSame(c.b, c.a) != c.want {
			t.Errorf("%s: want %v", name, c.want)
		}
	}
}

// P3: two in one are from the first to the last of both.
func TestOccJoin(t *testing.T) {
	for name, c := range map[string]struct{ a, b, want impl.Occ }{
		"one behind the other": {occ(1, 2, 0), occ(4, 6, 3), occ(1, 6, 0, 3)},
		"one over the other":   {occ(2, 5, 1, 3), occ(1, 4, 2, 3), occ(1, 5, 1, 2, 3)},
		"one within the other": {occ(1, 9, 1, 5), occ(3, 4, 2), occ(1, 9, 1, 2, 5)},
		"at one time":          {occ(3, 3, 2), occ(3, 3, 4), occ(3, 3, 2, 4)},
		"next to each other":   {occ(1, 3, 0, 1), occ(3, 6, 1, 2), occ(1, 6, 0, 1, 2)},
		"with itself":          {occ(2, 7, 1, 4), occ(2, 7, 1, 4), occ(2, 7, 1, 4)},
		"Ids of the other":     {occ(2, 7, 1, 4, 6), occ(3, 8, 4), occ(2, 8, 1, 4, 6)},
		"all Ids":              {occ(1, 1, upTo(24)...), occ(2000, 2000, upTo(24)...), occ(1, 2000, upTo(24)...)},
		"least and greatest":   {occ(1, 2000, 0), occ(1, 2000, 23), occ(1, 2000, 0, 23)},
		"Ids in turns":         {occ(1, 2, 0, 2, 4, 6), occ(1, 2, 1, 3, 5, 7), occ(1, 2, upTo(8)...)},
	} {
		for _, got := range []impl.Occ{impl.OccJoin(c.a, c.b), impl.OccJoin(c.b, c.a)} {
			if occKey(got) != occKey(c.want) || !impl.OccOk(got) {
				t.Errorf("%s: %v, want %v", name, got, c.want)
			}
		}
	}
	right := occ(2, 5, 1, 3)
	for _, wrong := range wrongOccs() {
		for _, got := range []impl.Occ{impl.OccJoin(wrong, right), impl.OccJoin(right, wrong), impl.OccJoin(wrong, wrong)} {
			if got.From != 0 || got.To != 0 || len(got.Ids) != 0 {
				t.Errorf("of %v: %v", wrong, got)
			}
		}
	}
}

func TestOccsPut(t *testing.T) {
	base := []impl.Occ{occ(2, 5, 1), occ(2, 5, 1, 3), occ(4, 5, 0), occ(1, 9, 2)}
	for name, c := range map[string]struct {
		list  []impl.Occ
		o     impl.Occ
		place int // -1, if it is there
	}{
		"into none":              {nil, occ(2, 5, 1), 0},
		"into an empty list":     {[]impl.Occ{}, occ(2, 5, 1), 0},
		"ahead of all by To":     {base, occ(1, 4, 5), 0},
		"ahead of all by From":   {base, occ(1, 5, 5), 0},
		"ahead of all by Id":     {base, occ(2, 5, 0, 9), 0},
		"between, one more Id":   {base, occ(2, 5, 1, 2), 1},
		"between, Ids and more":  {base, occ(2, 5, 1, 3, 4), 2},
		"between by Id":          {base, occ(2, 5, 2), 2},
		"between by From":        {base, occ(3, 5, 0), 2},
		"between by To":          {base, occ(1, 6, 0), 3},
		"behind all by To":       {base, occ(1, 10, 0), 4},
		"behind all by From":     {base, occ(2, 9, 0), 4},
		"behind all by more Ids": {base, occ(1, 9, 2, 3), 4},
		"ahead of the last":      {base, occ(1, 9, 1, 23), 3},
		"the first again":        {base, occ(2, 5, 1), -1},
		"the second again":       {base, occ(2, 5, 1, 3), -1},
		"the third again":        {base, occ(4, 5, 0), -1},
		"the last again":         {base, occ(1, 9, 2), -1},
		"the only one again":     {base[:1], occ(2, 5, 1), -1},
		"OccMax, one again":      {occRow(40), occ(5, 20, 0, 7), -1},
		"to OccMax":              {occRow(39), occ(1, 2, 0), 0},
		"OccMax, one ahead":      {occRow(40), occ(1, 2, 0), 0},
		"OccMax, one between":    {occRow(40), occ(5, 20, 0, 8), 21},
		"OccMax, one behind":     {occRow(40), occ(5, 2000, 0), 40},
	} {
		want := copiedOccs(c.list)
		if c.place >= 0 {
			want = slices.Insert(want, c.place, c.o)
		}
		if got := holdPut(t, c.list, c.o); !sameOccs(got, want) {
			t.Errorf("%s: %v, want %v", name, got, want)
		}
	}
}

func TestOccsPutWrong(t *testing.T) {
	right := occ(3, 1500, 1, 3)
	for _, wrong := range wrongOccs() {
		for _, list := range [][]impl.Occ{nil, {right}, occRow(39), occRow(40)} {
			if got := impl.OccsPut(list, wrong); len(got) != 0 {
				t.Errorf("%v into %d: %v", wrong, len(list), got)
			}
		}
		for _, list := range [][]impl.Occ{{wrong}, {wrong, occ(2000, 2000, 23)}, {occ(1, 1, 0), wrong}} {
			if got := impl.OccsPut(list, right); len(got) != 0 {
				t.Errorf("into %v: %v", list, got)
			}
		}
	}
	for name, list := range map[string][]impl.Occ{
		"one too many":   occRow(41),
		"many":           occRow(3000),
		"twice":          {right, right},
		"out of order":   {occ(1, 9, 0), occ(1, 8, 0)},
		"out, at its To": {occ(4, 1500, 0), right},
		"nothing":        {{}},
	} {
		for _, o := range []impl.Occ{right, occ(1, 1, 0), occ(2000, 2000, 0), list[0]} {
			if got := impl.OccsPut(list, o); len(got) != 0 {
				t.Errorf("%s: %v", name, got)
			}
		}
	}
	// What is answered of OccMax and one more is not ok, so nothing is put into it.
	more := impl.OccsPut(occRow(40), occ(1, 1, 0))
	if len(more) != 41 || impl.OccsOk(more) || len(impl.OccsPut(more, occ(1, 1, 0))) != 0 {
		t.Errorf("%d of OccMax and one more", len(more))
	}
}

// P3: in whatever order places are put in, and however often, they stand in one order, each once.
func TestOccsPutInAnyOrder(t *testing.T) {
	all := []impl.Occ{occ(1, 2, 5), occ(1, 3, 4), occ(2, 3, 0), occ(2, 3, 0, 1), occ(2, 3, 0, 1, 2), occ(2, 3, 0, 2), occ(2, 3, 1)}
	var put func(list []impl.Occ, left []impl.Occ)
	many := 0
	put = func(list []impl.Occ, left []impl.Occ) {
		if len(left) == 0 {
			many++
			if !sameOccs(list, all) || !impl.OccsOk(list) {
				t.Fatalf("%v", list)
			}
			return
		}
		for i, o := range left {
			next := holdPut(t, list, o)
			if again := impl.OccsPut(next, o); !sameOccs(again, next) {
				t.Fatalf("%v again: %v", o, again)
			}
			put(next, slices.Delete(copiedOccs(left), i, i+1))
		}
	}
	put(nil, all)
	if many != 5040 {
		t.Errorf("%d orders", many)
	}
}

func TestOccsText(t *testing.T) {
	for _, c := range []struct {
		list []impl.Occ
		want string
	}{
		{nil, ""},
		{[]impl.Occ{}, ""},
		{[]impl.Occ{occ(1, 1, 0)}, "1-1(0)"},
		{[]impl.Occ{occ(3, 4, 2), occ(2, 5, 1), occ(2, 5, 1, 3)}, "3-4(2) 2-5(1) 2-5(1,3)"},
		{[]impl.Occ{occ(1000, 2000, 9, 10, 23)}, "1000-2000(9,10,23)"},
		{[]impl.Occ{occ(1, 2, upTo(24)...)}, "1-2(0,1,2,3,4,5,6,7,8,9,10,11,12,13,14,15,16,17,18,19,20,21,22,23)"},
		{[]impl.Occ{{}}, "0-0()"},
		{[]impl.Occ{{}, {Ids: []int{}}}, "0-0() 0-0()"},
		{[]impl.Occ{occ(-1, -20, -3, -3, 24)}, "-1--20(-3,-3,24)"},
		{[]impl.Occ{occ(9, 8, 2, 1), occ(9, 8, 2, 1), occ(1, 1, 0)}, "9-8(2,1) 9-8(2,1) 1-1(0)"},
		{[]impl.Occ{occ(math.MinInt, math.MaxInt, math.MinInt, math.MaxInt)}, fmt.Sprintf("%d-%d(%d,%d)", math.MinInt, math.MaxInt, math.MinInt, math.MaxInt)},
		{occRow(50), textOccs(occRow(50))},
	} {
		if got := impl.OccsText(c.list); got != c.want {
			t.Errorf("OccsText = %q, want %q", got, c.want)
		}
	}
}

// someOcc is a place, made by a source with a fixed start: of few times and Ids, so that many are near one another; sometimes not ok.
func someOcc(r *rand.Rand) impl.Occ {
	o := impl.Occ{From: 1 + r.Intn(3)}
	o.To = o.From + r.Intn(3)
	most := []int{3, 5, 24}[r.Intn(3)]
	for id := range most {
		if r.Intn(3) == 0 {
			o.Ids = append(o.Ids, id)
		}
	}
	if r.Intn(20) == 0 {
		o.Ids = append(o.Ids, []int{-1, 0, 1, 23, 24, 32, math.MaxInt}[r.Intn(7)])
	}
	if r.Intn(40) == 0 {
		o.From = []int{-1, 0, 2000, 2001}[r.Intn(4)]
	}
	if r.Intn(40) == 0 {
		o.To = []int{0, 1999, 2000, 2001}[r.Intn(4)]
	}
	return o
}

// P3: of any two, all that is said of them; of any three, they stand in one order.
func TestOccSome(t *testing.T) {
	r := rand.New(rand.NewSource(6))
	right := 0
	for range 60000 {
		a, b, c := someOcc(r), someOcc(r), someOcc(r)
		holdTwo(t, a, b)
		if impl.OccLess(a, b) && impl.OccLess(b, c) && !impl.OccLess(a, c) {
			t.Fatalf("%v, %v, %v are in no order", a, b, c)
		}
		if okOcc(a) && okOcc(b) && okOcc(c) {
			right++
			left := impl.OccJoin(impl.OccJoin(a, b), c)
			if occKey(left) != occKey(impl.OccJoin(a, impl.OccJoin(b, c))) || !impl.OccOk(left) {
				t.Fatalf("%v, %v, %v: %v", a, b, c, left)
			}
		}
	}
	if right < 10000 {
		t.Errorf("only %d right", right)
	}
}

// P3: lists grow, place by place, up to OccMax, one more, and past it to none.
func TestOccsGrow(t *testing.T) {
	r := rand.New(rand.NewSource(7))
	most := map[int]int{}
	for range 100 {
		var list []impl.Occ
		for range 120 {
			o := someOcc(r)
			if len(list) > 0 && r.Intn(4) == 0 {
				o = copiedOccs(list)[r.Intn(len(list))]
			}
			next := holdPut(t, list, o)
			if impl.OccsOk(next) != okOccs(next) || impl.OccsText(next) != textOccs(next) {
				t.Fatalf("%v", next)
			}
			most[len(next)]++
			if okOcc(o) {
				list = next
			}
		}
	}
	if most[40] == 0 || most[41] == 0 {
		t.Errorf("never full: %v", most)
	}
}

// spoilOccs overwrites all lists, spare room included.
func spoilOccs(list []impl.Occ) {
	list = list[:cap(list)]
	for i := range list {
		spoilIds(list[i].Ids)
		list[i] = occ(-9, -9, -9)
	}
}

// spoilIds overwrites a list of Ids, spare room included.
func spoilIds(ids []int) {
	ids = ids[:cap(ids)]
	for i := range ids {
		ids[i] = -9
	}
}

// An answer is new memory, spare room included, and nothing is written into an argument or behind its end.
func TestOccMemory(t *testing.T) {
	ids := []int{1, 3, 5, 7, 9, 11}
	store := []impl.Occ{occ(2, 5, 1), {From: 2, To: 6, Ids: ids[:2]}, occ(4, 7, 0), occ(1, 9, 2), occ(1, 99, 2)}
	kept, keptIds := copiedOccs(store), slices.Clone(ids)
	for many := range 4 {
		list := store[:many]
		for _, o := range []impl.Occ{store[0], store[1], occ(1, 1, 0), occ(2, 6, 1, 2), occ(9, 9, 5), {From: 1, To: 1, Ids: ids[1:3]}, {}} {
			impl.OccOk(o)
			impl.OccsOk(list)
			impl.OccsSame(list, store[1:1+many])
			impl.OccsText(list)
			impl.OccLess(store[1], o)
			spoilIds(impl.OccJoin(store[1], o).Ids)
			spoilIds(impl.OccJoin(o, store[1]).Ids)
			spoilIds(impl.OccJoin(o, o).Ids)
			spoilOccs(impl.OccsPut(list, o))
		}
	}
	if !sameOccs(store, kept) || !slices.Equal(ids, keptIds) {
		t.Errorf("an argument is changed: %v, %v", store, ids)
	}
}

// No two lists of one answer share memory, nor do two answers.
func TestOccMemoryOfAnswers(t *testing.T) {
	one := occ(2, 6, 1, 3)
	shared := []int{4, 5}
	list := []impl.Occ{{From: 1, To: 2, Ids: shared}, {From: 1, To: 3, Ids: shared}, {From: 1, To: 9, Ids: shared}}
	for _, o := range []impl.Occ{one, {From: 1, To: 4, Ids: shared}, list[1]} {
		want := putOcc(list, o)
		for place := range want {
			got := impl.OccsPut(list, o)
			other := impl.OccsPut(list, o)
			spoilIds(got[place].Ids)
			got = append(got[:place:place], got[place+1:]...)
			if !sameOccs(got, slices.Delete(copiedOccs(want), place, place+1)) || !sameOccs(other, want) {
				t.Errorf("the Ids at %d share memory: %v, %v", place, got, other)
			}
		}
	}
	a, b := impl.OccJoin(one, list[0]), impl.OccJoin(one, list[0])
	spoilIds(a.Ids)
	if occKey(b) != occKey(occ(1, 6, 1, 3, 4, 5)) {
		t.Errorf("two answers share memory: %v", b)
	}
}
