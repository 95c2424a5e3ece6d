package places

// After gives the state behind one more scalar, or None.
func (m *Machine) After(state int, scalar rune) int {
	return m.States[state].Next[m.Cuts[m.cut(scalar)].Kind]
}

// GoesOn tells whether a state is behind some scalar from low to high.
func (m *Machine) GoesOn(state int, low, high rune) bool {
	for _, c := range m.Cuts[m.cut(low):] {
		if c.Low > high {
			return false
		}
		if m.States[state].Next[c.Kind] != None {
			return true
		}
	}
	return false
}

// cut gives the number of the cut behind which the scalar stands.
func (m *Machine) cut(scalar rune) int {
	low, high := 0, len(m.Cuts)
	for high-low > 1 {
		middle := (low + high) / 2
		if m.Cuts[middle].Low <= scalar {
			low = middle
		} else {
			high = middle
		}
	}
	return low
}
