// Package walk goes through texts with a machine. The machine goes by scalars, but a text may end amid one, and be alive.
package walk

import (
	"unicode/utf8"

	"scangen/places"
)

// Walk is how far a machine has come in a text, to which bytes may yet be added.
type Walk struct {
	machine *places.Machine
	state   int // None, where no text with these scalars is alive
	passed  int // bytes, of scalars that are whole

	// The longest beginning that is not empty and that a rule matches, of what was passed: its first rule and its bytes; places.None and 0, if there is none.
	Rule, Length int
}

// Of gives a walk that has not begun.
func Of(m *places.Machine) Walk { return Walk{machine: m, Rule: places.None} }

// Alive goes on through the text from where it stood, and tells whether all of the text is alive.
func (w *Walk) Alive(text []byte) bool {
	for w.state != places.None && utf8.FullRune(text[w.passed:]) {
		w.step(text[w.passed:])
	}
	if w.state == places.None {
		return false
	}
	part := text[w.passed:]
	if len(part) == 0 {
		return true
	}
	low, high := reach(part)
	return w.machine.GoesOn(w.state, low, high)
}

func (w *Walk) step(text []byte) {
	scalar, size := utf8.DecodeRune(text)
	if scalar == utf8.RuneError && size == 1 {
		w.state = places.None
		return
	}
	w.state = w.machine.After(w.state, scalar)
	w.passed += size
	if w.state == places.None {
		return
	}
	if rule := w.machine.States[w.state].Rule; rule != places.None {
		w.Rule, w.Length = rule, w.passed
	}
}

// A byte behind the first one of a scalar carries this many bits of it.
const tailBits = 6

// The least scalars that are written in three bytes and in four: what is less may not be written so long.
const (
	leastOfThree = 0x800
	leastOfFour  = 0x10000
)

// reach gives the least and the greatest scalar that the bytes, which are the beginning of one, may become.
func reach(part []byte) (low, high rune) {
	size, least := 2, rune(0)
	switch {
	case part[0] >= 0xF0:
		size, least = 4, leastOfFour
	case part[0] >= 0xE0:
		size, least = 3, leastOfThree
	}
	low = rune(part[0] & (0x7F >> size))
	for _, b := range part[1:] {
		low = low<<tailBits | rune(b&(1<<tailBits-1))
	}
	missing := tailBits * (size - len(part))
	low <<= missing
	high = low | (1<<missing - 1)
	return max(low, least), min(high, utf8.MaxRune)
}
