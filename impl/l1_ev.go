package impl

import (
	"slices"
	"strconv"
	"strings"
)

// Ev is something that happened: what, when, and with which number.
type Ev struct {
	Sym int
	At  int
	Val int
}

// Bounds of what happens.
const (
	EvSyms = 5
	EvMax  = 24
	EvTime = 1000
	EvVal  = 100
)

// The letters of what happens, in the order of Sym.
const (
	letterA byte = 'a' + iota
	letterB
	letterC
	letterD
	letterE
)

// letterOther stands where Sym has no letter, so that wrong events have a text too.
const letterOther byte = '?'

// evTextMax is the size of the longest text that is read.
const evTextMax = 300

// numberStop is past all bounds: a number above it is wrong however it goes on, and more digits could wrap it round to a right one.
const numberStop = 1000000

// EvOk says whether something can happen.
func EvOk(e Ev) bool {
	return within(e.Sym, 0, EvSyms-1) && within(e.At, 1, EvTime) && within(e.Val, 0, EvVal)
}

// EvsOk says whether all that happened did so one behind the other.
func EvsOk(list []Ev) bool {
	if len(list) > EvMax {
		return false
	}
	last := 0
	for _, e := range list {
		if !EvOk(e) || e.At <= last {
			return false
		}
		last = e.At
	}
	return true
}

// EvsSame says whether two lists are one.
func EvsSame(a []Ev, b []Ev) bool {
	return slices.Equal(a, b)
}

// EvsText writes what happened.
func EvsText(list []Ev) string {
	var text strings.Builder
	for i, e := range list {
		if i > 0 {
			text.WriteByte(' ')
		}
		text.WriteByte(letterOf(e.Sym))
		text.WriteString(strconv.Itoa(e.At))
		if e.Val != 0 {
			text.WriteByte('=')
			text.WriteString(strconv.Itoa(e.Val))
		}
	}
	return text.String()
}

// EvsRead reads what happened.
func EvsRead(text string) ([]Ev, bool) {
	if len(text) > evTextMax {
		return nil, false
	}
	list := evsScan(text)
	// Writing them again refuses whatever the scan let pass: needless zeros and spaces, and what it left over.
	if !EvsOk(list) || EvsText(list) != text {
		return nil, false
	}
	return list, true
}

// EvsTill is what had happened at a time.
func EvsTill(list []Ev, at int) []Ev {
	var till []Ev
	for _, e := range list {
		if e.At <= at {
			till = append(till, e)
		}
	}
	return till
}

// lastAt is when the last of a list that is in order happened, or 0.
func lastAt(list []Ev) int {
	if len(list) == 0 {
		return 0
	}
	return list[len(list)-1].At
}

// evsScan takes the events that a text seems to hold, up to the first byte that can't stand where it does. EvsRead holds them against the text, so this need only be right about texts that are right.
func evsScan(text string) []Ev {
	var list []Ev
	place := 0
scan:
	for place < len(text) {
		e := Ev{Sym: symOf(text[place])}
		e.At, place = numberAt(text, place+1)
		if place < len(text) && text[place] == '=' {
			e.Val, place = numberAt(text, place+1)
		}
		list = append(list, e)
		switch {
		case place < len(text) && text[place] == ' ':
			place++
		default:
			break scan
		}
	}
	return list
}

// numberAt is the number whose digits begin at a place, 0 if there are none, and the place behind them.
func numberAt(text string, place int) (int, int) {
	n := 0
	for place < len(text) && text[place] >= '0' && text[place] <= '9' {
		if n <= numberStop {
			n = 10*n + int(text[place]-'0')
		}
		place++
	}
	return n, place
}

// letters is all letters, each at the place of its Sym.
func letters() [EvSyms]byte {
	return [EvSyms]byte{letterA, letterB, letterC, letterD, letterE}
}

// letterOf is the letter of a Sym.
func letterOf(sym int) byte {
	if !within(sym, 0, EvSyms-1) {
		return letterOther
	}
	return letters()[sym]
}

// symOf is the Sym of a letter, or -1.
func symOf(letter byte) int {
	for sym, l := range letters() {
		if l == letter {
			return sym
		}
	}
	return -1
}

// within says whether a number is low to high.
func within(n int, low int, high int) bool {
	return low <= n && n <= high
}
