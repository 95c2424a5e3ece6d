// Package places finds the sets of places that the texts of rules have, and makes a machine of them.
package places

import (
	"slices"

	"scangen/api"
	"scangen/tree"
)

// None is the rule where none matches, and the state where there is none.
const None = -1

// Machine goes from the set of a text to that of the text with one scalar more.
type Machine struct {
	Cuts   []Cut   // in rising order, the first at 0
	States []State // the first is that of the empty text, each other one a set
}

// Cut is where scalars of another kind begin: no rule tells those of one kind from each other.
type Cut struct {
	Low  rune
	Kind int
}

// State is a set.
type State struct {
	Rule int   // the first rule that matches its texts, or None; no token is empty, so it is None for the empty text
	Next []int // by kind: the state behind, or None
}

// Build makes the machine of rules that have at most api.MaxPlaces places together: api.ErrStates, if there are too many sets.
func Build(rules []tree.Node) (*Machine, error) {
	l := layOut(rules)
	cuts, kinds := l.kinds()
	states, err := l.states(kinds)
	if err != nil {
		return nil, err
	}
	return &Machine{cuts, states}, nil
}

// kinds gives the kinds of scalars, and for each the places that match it.
func (l *layout) kinds() ([]Cut, []set) {
	var cuts []Cut
	var kinds []set
	numbers := map[set]int{}
	for _, low := range l.lows() {
		s := l.matching(low)
		kind, known := numbers[s]
		if !known {
			kind = len(kinds)
			numbers[s] = kind
			kinds = append(kinds, s)
		}
		if len(cuts) == 0 || cuts[len(cuts)-1].Kind != kind {
			cuts = append(cuts, Cut{low, kind})
		}
	}
	return cuts, kinds
}

// lows gives every scalar at which a class begins to match or ceases to, and 0.
func (l *layout) lows() []rune {
	lows := []rune{0}
	for _, class := range l.class[:l.count] {
		for _, r := range class {
			lows = append(lows, r.Low, r.High+1)
		}
	}
	slices.Sort(lows)
	return slices.Compact(lows)
}

func (l *layout) matching(scalar rune) set {
	var s set
	for place, class := range l.class[:l.count] {
		if class.Has(scalar) {
			s = s.or(one(place))
		}
	}
	return s
}

// states goes through the sets, from the empty text on, and numbers each as it is first met.
func (l *layout) states(kinds []set) ([]State, error) {
	states := []State{{Rule: None}}
	behind := []set{l.first}
	numbers := map[set]int{}
	for at := 0; at < len(states); at++ {
		next := make([]int, len(kinds))
		for kind, matching := range kinds {
			s := behind[at].and(matching)
			if s.isEmpty() {
				next[kind] = None
				continue
			}
			number, known := numbers[s]
			if !known {
				if len(numbers) == api.MaxSets {
					return nil, api.ErrStates
				}
				number = len(states)
				numbers[s] = number
				states = append(states, State{Rule: l.rule(s)})
				behind = append(behind, l.behind(s))
			}
			next[kind] = number
		}
		states[at].Next = next
	}
	return states, nil
}
