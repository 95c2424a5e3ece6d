// Package scalars holds sets of Unicode's scalars.
package scalars

import (
	"cmp"
	"slices"
	"unicode/utf8"
)

// The numbers from FirstSurrogate to LastSurrogate are no scalars.
const (
	FirstSurrogate = 0xD800
	LastSurrogate  = 0xDFFF
)

// Range is the numbers from Low to High, both among them; with High below Low it is none.
type Range struct{ Low, High rune }

// Set is ranges of scalars, in rising order, with a gap between any two.
type Set []Range

// Of gives the scalars of all the ranges.
func Of(ranges ...Range) Set {
	var parts []Range
	for _, r := range ranges {
		parts = addRange(parts, r.Low, min(r.High, FirstSurrogate-1))
		parts = addRange(parts, max(r.Low, LastSurrogate+1), r.High)
	}
	slices.SortFunc(parts, func(a, b Range) int { return cmp.Compare(a.Low, b.Low) })
	return joined(parts)
}

func addRange(list []Range, low, high rune) []Range {
	if low > high {
		return list
	}
	return append(list, Range{low, high})
}

// joined makes one range of those that overlap or touch.
func joined(rising []Range) Set {
	var s Set
	for _, r := range rising {
		last := len(s) - 1
		if last >= 0 && r.Low <= s[last].High+1 {
			s[last].High = max(s[last].High, r.High)
			continue
		}
		s = append(s, r)
	}
	return s
}

// Turned gives the scalars that s has not.
func (s Set) Turned() Set {
	var gaps []Range
	low := rune(0)
	for _, r := range s {
		gaps = append(gaps, Range{low, r.Low - 1})
		low = r.High + 1
	}
	return Of(append(gaps, Range{low, utf8.MaxRune})...)
}

// Has tells whether s has the number.
func (s Set) Has(number rune) bool {
	for _, r := range s {
		if r.Low <= number && number <= r.High {
			return true
		}
	}
	return false
}
