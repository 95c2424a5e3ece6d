package places

import (
	"scangen/api"
	"scangen/scalars"
	"scangen/tree"
)

// layout is the places of all rules, numbered from 0 on, and how they follow each other.
type layout struct {
	count  int
	class  [api.MaxPlaces]scalars.Set
	follow [api.MaxPlaces]set // which places may match the next scalar
	first  set                // which places may match the first scalar of a text
	last   []set              // by rule: which places may match the last scalar
}

// piece is a part of a rule whose places are laid out.
type piece struct {
	first, last set
	empty       bool // it matches the empty text too
}

func layOut(rules []tree.Node) *layout {
	l := &layout{}
	for _, rule := range rules {
		p := l.lay(rule)
		l.first = l.first.or(p.first)
		l.last = append(l.last, p.last)
	}
	return l
}

func (l *layout) lay(node tree.Node) piece {
	switch n := node.(type) {
	case tree.Class:
		return l.place(n.Set)
	case tree.Alt:
		return l.alt(n)
	case tree.Times:
		return l.times(n)
	case tree.Row:
		p := piece{empty: true}
		for _, part := range n {
			p = l.join(p, l.lay(part))
		}
		return p
	}
	return piece{}
}

func (l *layout) place(class scalars.Set) piece {
	s := one(l.count)
	l.class[l.count] = class
	l.count++
	return piece{first: s, last: s}
}

func (l *layout) alt(rows tree.Alt) piece {
	var p piece
	for _, row := range rows {
		q := l.lay(row)
		p = piece{p.first.or(q.first), p.last.or(q.last), p.empty || q.empty}
	}
	return p
}

func (l *layout) times(t tree.Times) piece {
	p := piece{empty: true}
	copies := t.Copies()
	for i := range copies {
		q := l.lay(t.Atom)
		if t.Most == tree.Endless && i == copies-1 {
			l.connect(q.last, q.first)
		}
		if i >= t.Least {
			q.empty = true
		}
		p = l.join(p, q)
	}
	return p
}

// join lays q behind p.
func (l *layout) join(p, q piece) piece {
	l.connect(p.last, q.first)
	joined := piece{p.first, q.last, p.empty && q.empty}
	if p.empty {
		joined.first = joined.first.or(q.first)
	}
	if q.empty {
		joined.last = joined.last.or(p.last)
	}
	return joined
}

func (l *layout) connect(from, to set) {
	for place := range l.count {
		if from.has(place) {
			l.follow[place] = l.follow[place].or(to)
		}
	}
}

// behind gives the places that may match the scalar behind a text of this set.
func (l *layout) behind(s set) set {
	var all set
	for place := range l.count {
		if s.has(place) {
			all = all.or(l.follow[place])
		}
	}
	return all
}

// rule gives the first rule that matches the texts of this set.
func (l *layout) rule(s set) int {
	for i, last := range l.last {
		if !s.and(last).isEmpty() {
			return i
		}
	}
	return None
}
