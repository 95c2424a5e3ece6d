package tree

import (
	"strings"
	"unicode/utf8"

	"scangen/api"
	"scangen/scalars"
)

// themselves are the scalars that stand for themselves behind a backslash.
const themselves = "()[]{}|*+?.\\-^"

const maxHexDigits = 6

func (r *reader) class() Node {
	open := r.take()
	turned := r.accept('^')
	items := []scalars.Range{r.item()}
	for !r.accept(']') {
		items = append(items, r.item())
	}
	set := scalars.Of(items...)
	if turned {
		set = set.Turned()
	}
	if turned && len(set) == 0 {
		panic(r.fault(api.ErrRange, open.at))
	}
	if r.late != nil {
		panic(r.late)
	}
	return Class{set}
}

func (r *reader) item() scalars.Range {
	at := r.peek().at
	low := r.edge()
	if !r.accept('-') {
		return scalars.Range{Low: low, High: low}
	}
	high := r.edge()
	if high < low {
		// Not thrown yet: the bracket, which stands further ahead, may be wrong too.
		r.late = r.fault(api.ErrRange, at)
	}
	return scalars.Range{Low: low, High: high}
}

func (r *reader) edge() rune {
	s := r.peek()
	switch s.value {
	case '\\':
		return r.escape()
	case '[', ']', '-', end, illFormed:
		panic(r.fault(api.ErrSyntax, s.at))
	}
	return r.take().value
}

func (r *reader) escape() rune {
	start := r.take()
	s := r.take()
	switch s.value {
	case 'n':
		return '\n'
	case 't':
		return '\t'
	case 'r':
		return '\r'
	case 'u':
		if value, ok := r.numbered(); ok {
			return value
		}
	default:
		if strings.ContainsRune(themselves, s.value) {
			return s.value
		}
	}
	panic(r.fault(api.ErrSyntax, start.at))
}

// numbered reads the braces behind \u, and the digits between them.
func (r *reader) numbered() (rune, bool) {
	if !r.accept('{') {
		return 0, false
	}
	value, digits := rune(0), 0
	for digits < maxHexDigits {
		digit, ok := hexDigit(r.peek().value)
		if !ok {
			break
		}
		r.take()
		value = value*16 + digit
		digits++
	}
	return value, digits > 0 && r.accept('}') && utf8.ValidRune(value)
}

func hexDigit(value rune) (rune, bool) {
	switch {
	case value >= '0' && value <= '9':
		return value - '0', true
	case value >= 'a' && value <= 'f':
		return value - 'a' + 10, true
	case value >= 'A' && value <= 'F':
		return value - 'A' + 10, true
	}
	return 0, false
}
