package tree

import (
	"unicode/utf8"

	"scangen/api"
	"scangen/scalars"
)

// Below all scalars, so that neither can stand anywhere a scalar may.
const (
	end       rune = -1
	illFormed rune = -2
)

// scalar is one scalar of a rule, with the byte at which it begins.
type scalar struct {
	value rune
	at    int
}

// reader goes through a rule; what is wrong it throws, as an *api.Fault.
type reader struct {
	rule  int
	list  []scalar // the last one is end
	next  int
	depth int        // how many parentheses are open
	late  *api.Fault // of a range in the class that is being read: the class itself may be wrong further ahead
}

// Read reads a rule as a tree. An error names it by its number.
func Read(rule string, number int) (root Node, err error) {
	defer func() {
		switch thrown := recover().(type) {
		case nil:
		case *api.Fault:
			root, err = nil, thrown
		default:
			panic(thrown)
		}
	}()
	r := &reader{rule: number, list: split(rule)}
	root = r.alt()
	r.expect(end)
	return root, nil
}

func split(rule string) []scalar {
	var list []scalar
	for at, value := range rule {
		if value == utf8.RuneError && !startsScalar(rule[at:]) {
			value = illFormed
		}
		list = append(list, scalar{value, at})
	}
	return append(list, scalar{end, len(rule)})
}

// startsScalar tells a replacement character that is written out from one that stands for an ill-formed byte.
func startsScalar(text string) bool {
	_, size := utf8.DecodeRuneInString(text)
	return size > 1
}

func (r *reader) peek() scalar { return r.list[r.next] }

// take goes on by a scalar, but never behind the end.
func (r *reader) take() scalar {
	s := r.list[r.next]
	if s.value != end {
		r.next++
	}
	return s
}

// accept takes the next scalar if it is this one.
func (r *reader) accept(value rune) bool {
	if r.peek().value != value {
		return false
	}
	r.take()
	return true
}

func (r *reader) expect(value rune) {
	if !r.accept(value) {
		panic(r.fault(api.ErrSyntax, r.peek().at))
	}
}

// fault gives what to throw: the late fault, if it stands further ahead.
func (r *reader) fault(e api.Errno, at int) *api.Fault {
	if r.late != nil && r.late.At < at {
		return r.late
	}
	return &api.Fault{E: e, Rule: r.rule, At: at}
}

func (r *reader) alt() Node {
	rows := Alt{r.row()}
	for r.accept('|') {
		rows = append(rows, r.row())
	}
	return rows
}

func (r *reader) row() Node {
	var parts Row
	for !r.rowEnds() {
		parts = append(parts, r.part())
	}
	return parts
}

func (r *reader) rowEnds() bool {
	switch r.peek().value {
	case '|', ')', end:
		return true
	}
	return false
}

func (r *reader) part() Node {
	atom := r.atom()
	switch {
	case r.accept('*'):
		return Times{atom, 0, Endless}
	case r.accept('+'):
		return Times{atom, 1, Endless}
	case r.accept('?'):
		return Times{atom, 0, 1}
	case r.peek().value == '{':
		return r.counted(atom)
	}
	return atom
}

func (r *reader) atom() Node {
	s := r.peek()
	switch s.value {
	case '(':
		return r.group()
	case '[':
		return r.class()
	case '.':
		r.take()
		return Class{scalars.Of(scalars.Range{Low: '\n', High: '\n'}).Turned()}
	case '\\':
		return single(r.escape())
	case ')', ']', '{', '}', '|', '*', '+', '?', end, illFormed:
		panic(r.fault(api.ErrSyntax, s.at))
	}
	return single(r.take().value)
}

func single(value rune) Node {
	return Class{scalars.Of(scalars.Range{Low: value, High: value})}
}

func (r *reader) group() Node {
	open := r.take()
	if r.depth == api.MaxDepth {
		panic(r.fault(api.ErrDepth, open.at))
	}
	r.depth++
	inner := r.alt()
	r.expect(')')
	r.depth--
	return inner
}

func (r *reader) counted(atom Node) Node {
	open := r.take()
	least, ok := r.number()
	most := least
	if ok && r.accept(',') {
		most, ok = r.most()
	}
	if !ok || !r.accept('}') || most != Endless && most < least || atom.Places() == 0 {
		panic(r.fault(api.ErrTimes, open.at))
	}
	return Times{atom, least, most}
}

func (r *reader) most() (int, bool) {
	if r.peek().value == '}' {
		return Endless, true
	}
	return r.number()
}

// number reads one or two digits.
func (r *reader) number() (int, bool) {
	value, digits := 0, 0
	for digits < 2 && r.peek().value >= '0' && r.peek().value <= '9' {
		value = value*10 + int(r.take().value-'0')
		digits++
	}
	return value, digits > 0 && value <= api.MaxTimes
}
