package places

import "scangen/api"

const wordBits = 32

// set is a set of places, a bit a place: an array, so that it can be the key of a map.
type set [api.MaxPlaces / wordBits]uint32

func one(place int) set {
	var s set
	s[place/wordBits] = 1 << (place % wordBits)
	return s
}

func (s set) has(place int) bool { return s[place/wordBits]>>(place%wordBits)&1 == 1 }

func (s set) and(t set) set {
	for i := range s {
		s[i] &= t[i]
	}
	return s
}

func (s set) or(t set) set {
	for i := range s {
		s[i] |= t[i]
	}
	return s
}

func (s set) isEmpty() bool { return s == set{} }
