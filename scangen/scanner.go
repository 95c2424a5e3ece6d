package scangen

import (
	"unicode/utf8"

	"scangen/api"
	"scangen/places"
	"scangen/source"
	"scangen/walk"
)

// Scanner cuts what a reader gives into tokens.
type Scanner struct {
	machine  *places.Machine
	source   source.Source
	capacity int
	rest     []byte    // what was read behind the last token
	stop     error     // why there is no more behind it, or nil: there may be
	walk     walk.Walk // through rest; not of one Next alone, as a reader may call another one
	spot     spot      // where rest begins
	err      error     // what every Next gives from now on
}

// Scan makes a scanner (P9).
func (t *Tables) Scan(r api.Reader, capacity int) (*Scanner, error) {
	if capacity < api.MinCapacity || capacity > api.MaxCapacity {
		return nil, api.ErrConfig
	}
	return &Scanner{
		machine:  t.machine,
		source:   source.Of(r),
		capacity: capacity,
		walk:     walk.Of(t.machine),
		spot:     spot{line: 1, column: 1},
	}, nil
}

// Next gives the next token (P10, P11).
func (s *Scanner) Next() (api.Token, error) {
more:
	if s.err != nil {
		return api.Token{}, s.err
	}
	alive := s.walk.Alive(s.rest)
	unsure := alive || !utf8.FullRune(s.rest)
	switch {
	case alive && len(s.rest) >= s.capacity:
		return s.fail(api.ErrTooLong)
	case unsure && s.stop == nil:
		s.readMore()
		goto more
	case unsure && s.stop != api.ErrEnd, len(s.rest) == 0:
		return s.fail(s.stop)
	}
	return s.cut(), nil
}

func (s *Scanner) readMore() {
	given, stop := s.source.Read(s.capacity - len(s.rest))
	s.rest = append(s.rest, given...)
	s.stop = stop
}

// fail keeps the error, and nothing else: no Next will need it.
func (s *Scanner) fail(err error) (api.Token, error) {
	*s = Scanner{err: err}
	return api.Token{}, err
}

// cut takes the token off the rest: what a rule matches, or else one scalar or one ill-formed byte.
func (s *Scanner) cut() api.Token {
	length := s.walk.Length
	if length == 0 {
		_, length = utf8.DecodeRune(s.rest)
	}
	token := s.spot.token(s.walk.Rule, string(s.rest[:length]))
	s.spot.pass(token.Text)
	s.rest = s.rest[length:]
	s.walk = walk.Of(s.machine)
	return token
}

// Tokens goes through the tokens, and the error behind the last one (P12).
func (s *Scanner) Tokens() func(yield func(t api.Token, err error) bool) {
	return func(yield func(t api.Token, err error) bool) {
		for {
			token, err := s.Next()
			if !yield(token, err) || err != nil {
				return
			}
		}
	}
}
