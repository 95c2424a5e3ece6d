package places

import (
	"slices"
	"unicode/utf8"
)

// Boundless is the bound where there is none.
const Boundless = -1

// What is known of a state: nothing; that the way that is being gone leads through it; how far its ways go.
const (
	unseen = iota
	open
	done
)

// Bound gives 1 more than the most bytes that an alive text has behind the longest of its beginnings that a rule matches; Boundless, if a way goes round without a match.
func (m *Machine) Bound() int {
	widths := m.widths()
	known := make([]int, len(m.States))
	most := make([]int, len(m.States)) // by state: of the bytes behind it, as long as none of them makes a match
	var ends func(state int) bool
	ends = func(state int) bool {
		if known[state] != unseen {
			return known[state] == done
		}
		known[state] = open
		for kind, next := range m.States[state].Next {
			if next == None {
				continue
			}
			// A text that ends amid the scalar is not matched, whatever the whole scalar makes of it.
			length := widths[kind] - 1
			if m.States[next].Rule == None {
				if !ends(next) {
					return false
				}
				length = widths[kind] + most[next]
			}
			most[state] = max(most[state], length)
		}
		known[state] = done
		return true
	}
	for state := range m.States {
		if !ends(state) {
			return Boundless
		}
	}
	return 1 + slices.Max(most)
}

// widths gives for each kind the most bytes in which a scalar of it is written: those of its greatest one, as the cuts rise. (A kind with numbers that are no scalars leads nowhere, and is not asked for.)
func (m *Machine) widths() []int {
	widths := make([]int, len(m.States[0].Next))
	for i, c := range m.Cuts {
		high := rune(utf8.MaxRune)
		if i+1 < len(m.Cuts) {
			high = m.Cuts[i+1].Low - 1
		}
		widths[c.Kind] = utf8.RuneLen(high)
	}
	return widths
}
