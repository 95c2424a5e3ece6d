// Package scangen: scanners out of rules: see DOC.md.
package scangen

import (
	"scangen/places"
	"scangen/stored"
)

// Tables are made of rules.
type Tables struct{ machine *places.Machine }

// Bound tells how many bytes behind a token must be seen at most, to know where it ends (P7).
func (t *Tables) Bound() int { return t.machine.Bound() }

// Encode writes tables (P8).
func (t *Tables) Encode() string { return stored.Write(t.machine) }

// Load reads them (P8).
func Load(s string) (*Tables, error) {
	machine, err := stored.Read(s)
	if err != nil {
		return nil, err
	}
	return &Tables{machine}, nil
}
