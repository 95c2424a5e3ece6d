package scangen

import (
	"strings"
	"unicode/utf8"

	"scangen/api"
)

// spot is a place in all that a reader gives.
type spot struct{ at, line, column int }

func (s spot) token(rule int, text string) api.Token {
	return api.Token{Rule: rule, At: s.at, Line: s.line, Column: s.column, Text: text}
}

// pass goes behind the text.
func (s *spot) pass(text string) {
	s.at += len(text)
	if breaks := strings.Count(text, "\n"); breaks > 0 {
		s.line += breaks
		s.column = 1
		text = text[strings.LastIndexByte(text, '\n')+1:]
	}
	s.column += utf8.RuneCountInString(text)
}
