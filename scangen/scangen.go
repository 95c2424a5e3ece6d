// Package scangen: scanners out of rules: see DOC.md.
package scangen

import (
	"scangen/api"
	"scangen/places"
)

// Tables are made of rules.
type Tables struct{ machine *places.Machine }

// Bound tells how many bytes behind a token must be seen at most, to know where it ends (P7).
func (t *Tables) Bound() int { return 0 }

// Encode writes tables (P8).
func (t *Tables) Encode() string { return "" }

// Load reads them (P8).
func Load(s string) (*Tables, error) { return nil, nil }

// Scanner cuts what a reader gives into tokens.
type Scanner struct{}

// Scan makes a scanner (P9).
func (t *Tables) Scan(r api.Reader, capacity int) (*Scanner, error) { return nil, nil }

// Next gives the next token (P10, P11).
func (s *Scanner) Next() (api.Token, error) { return api.Token{}, nil }

// Tokens goes through the tokens, and the error behind the last one (P12).
func (s *Scanner) Tokens() func(yield func(t api.Token, err error) bool) {
	return func(yield func(t api.Token, err error) bool) {}
}
