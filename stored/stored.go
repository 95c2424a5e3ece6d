// Package stored writes machines as bytes, and reads them.
package stored

import (
	"slices"

	"scangen/api"
	"scangen/places"
)

// The bytes are numbers: how many cuts there are; each cut by two, its first scalar and its kind; each state by its rule and, kind by kind, the state behind. Rules and states are written by one more than they are, so that none is 0.
const (
	numbersOfCut = 2
	raised       = 1
)

// Write gives the bytes of a machine.
func Write(m *places.Machine) string {
	out := appendNumber(nil, len(m.Cuts))
	for _, c := range m.Cuts {
		out = appendNumber(out, int(c.Low))
		out = appendNumber(out, c.Kind)
	}
	for _, s := range m.States {
		out = appendNumber(out, s.Rule+raised)
		for _, next := range s.Next {
			out = appendNumber(out, next+raised)
		}
	}
	return string(out)
}

// Read gives the sound machine that is written as just these bytes, or api.ErrTables.
func Read(s string) (*places.Machine, error) {
	list := numbers(s)
	if len(list) == 0 || numbersOfCut*list[0] > len(list)-1 {
		return nil, api.ErrTables
	}
	behind := 1 + numbersOfCut*list[0]
	m := machine(list[1:behind], list[behind:])
	// The machine alone does not tell of bytes that are no numbers, nor of a number in more bytes than it takes.
	if !m.Sound() || Write(m) != s {
		return nil, api.ErrTables
	}
	return m, nil
}

// machine makes one of the numbers, sound or not.
func machine(cuts, states []int) *places.Machine {
	m := &places.Machine{}
	kinds := 0
	for cut := range slices.Chunk(cuts, numbersOfCut) {
		m.Cuts = append(m.Cuts, places.Cut{Low: rune(cut[0]), Kind: cut[1]})
		kinds = max(kinds, 1+cut[1])
	}
	for row := range slices.Chunk(states, 1+kinds) {
		state := places.State{Rule: row[0] - raised}
		for _, next := range row[1:] {
			state.Next = append(state.Next, next-raised)
		}
		m.States = append(m.States, state)
	}
	return m
}
