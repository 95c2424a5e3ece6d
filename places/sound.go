package places

import (
	"unicode/utf8"

	"scangen/api"
	"scangen/scalars"
)

// Sound tells whether a machine from elsewhere is one that may be gone through: it has what those of Build have, as far as walks and bounds lean on it.
func (m *Machine) Sound() bool {
	kinds, rise := m.countKinds()
	return rise && m.inOrder(kinds) && m.scalarsOnly() && m.allMatch()
}

// countKinds also tells whether the cuts rise from 0 on, and the kinds are numbered as they are first met, so that each has a cut.
func (m *Machine) countKinds() (int, bool) {
	kinds, least := 0, rune(0)
	for i, c := range m.Cuts {
		if i == 0 && c.Low != 0 || c.Low < least || c.Low > utf8.MaxRune+1 || c.Kind < 0 || c.Kind > kinds {
			return 0, false
		}
		kinds = max(kinds, c.Kind+1)
		least = c.Low + 1
	}
	return kinds, kinds > 0
}

// inOrder tells whether the states are numbered as they are first met, from the empty text on, to which none leads back: there is a text for each.
func (m *Machine) inOrder(kinds int) bool {
	if len(m.States) == 0 || len(m.States) > 1+api.MaxSets || m.States[0].Rule != None {
		return false
	}
	met := 1
	for at, s := range m.States {
		if at >= met || s.Rule < None || s.Rule >= api.MaxRules || len(s.Next) != kinds {
			return false
		}
		for _, next := range s.Next {
			if next < None || next == 0 || next > met {
				return false
			}
			if next == met {
				met++
			}
		}
	}
	return met == len(m.States)
}

// scalarsOnly tells whether no state goes on by a number that is no scalar.
func (m *Machine) scalarsOnly() bool {
	for state := range m.States {
		if m.GoesOn(state, scalars.FirstSurrogate, scalars.LastSurrogate) || m.GoesOn(state, utf8.MaxRune+1, utf8.MaxRune+1) {
			return false
		}
	}
	return true
}

// allMatch tells whether each state leads to a match: else its texts would not be alive. (The empty text is alive, though there be no match.)
func (m *Machine) allMatch() bool {
	before := make([][]int, len(m.States))
	for state, s := range m.States {
		for _, next := range s.Next {
			if next != None {
				before[next] = append(before[next], state)
			}
		}
	}
	matches := make([]bool, len(m.States))
	count := 0
	var mark func(state int)
	mark = func(state int) {
		if state == 0 || matches[state] {
			return
		}
		matches[state] = true
		count++
		for _, b := range before[state] {
			mark(b)
		}
	}
	for state, s := range m.States {
		if s.Rule != None {
			mark(state)
		}
	}
	return count == len(m.States)-1
}
