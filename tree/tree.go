// Package tree reads rules as trees.
package tree

import "scangen/scalars"

// Endless is how often a part may stand at most, where there is no most.
const Endless = -1

// Node is a part of a rule: a Class, a Row, an Alt or a Times.
type Node interface {
	// Places counts the places of the part, each copy by itself.
	Places() int
}

// Class matches one scalar of its set; a single scalar and the dot are classes, too.
type Class struct{ Set scalars.Set }

// Row matches what its parts match, one behind the other.
type Row []Node

// Alt matches what one of its rows matches.
type Alt []Node

// Times matches what its atom matches, Least to Most times.
type Times struct {
	Atom        Node
	Least, Most int
}

// Copies tells how many copies of the atom there are; without a most the last of them may match again and again.
func (t Times) Copies() int {
	if t.Most == Endless {
		return max(t.Least, 1)
	}
	return t.Most
}

// Places is 1: a class is a place.
func (c Class) Places() int { return 1 }

// Places counts those of all parts.
func (r Row) Places() int { return sum(r) }

// Places counts those of all rows.
func (a Alt) Places() int { return sum(a) }

// Places counts those of all copies. In as many bytes as a rule has, and as deep as it may go, they stay below 1<<31.
func (t Times) Places() int { return t.Copies() * t.Atom.Places() }

func sum(nodes []Node) int {
	n := 0
	for _, node := range nodes {
		n += node.Places()
	}
	return n
}
