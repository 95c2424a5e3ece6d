package places

import (
	"fmt"
	"sort"
	"strings"

	"scangen/scalars"
	"scangen/tree"
)

// The oracle takes the document by its words: it walks a tree, all copies of which are written out, scalar by scalar, and keeps of each way through it which place matched last, and what is yet to match.

type mark interface{ String() string }

type (
	nothing struct{}
	leaf    struct {
		place int
		class scalars.Set
	}
	pair   struct{ head, tail mark }
	either struct{ left, right mark }
	again  struct{ inner mark } // none or more times
)

func (nothing) String() string  { return "-" }
func (l leaf) String() string   { return fmt.Sprint(l.place) }
func (p pair) String() string   { return "(" + p.head.String() + " " + p.tail.String() + ")" }
func (e either) String() string { return "(" + e.left.String() + "|" + e.right.String() + ")" }
func (a again) String() string  { return a.inner.String() + "*" }

// marked writes out all copies; next is the number of the next place.
func marked(node tree.Node, next *int) mark {
	switch n := node.(type) {
	case tree.Class:
		*next++
		return leaf{*next - 1, n.Set}
	case tree.Row:
		m := mark(nothing{})
		for _, part := range n {
			m = pair{m, marked(part, next)}
		}
		return m
	case tree.Alt:
		m := marked(n[0], next)
		for _, row := range n[1:] {
			m = either{m, marked(row, next)}
		}
		return m
	case tree.Times:
		return markedTimes(n, next)
	}
	panic("no node")
}

func markedTimes(n tree.Times, next *int) mark {
	m := mark(nothing{})
	if n.Most == tree.Endless && n.Least == 0 {
		return again{marked(n.Atom, next)}
	}
	for i := range n.Least {
		one := marked(n.Atom, next)
		m = pair{m, one}
		if n.Most == tree.Endless && i == n.Least-1 {
			m = pair{m, again{one}}
		}
	}
	for i := n.Least; i < n.Most; i++ {
		m = pair{m, either{nothing{}, marked(n.Atom, next)}}
	}
	return m
}

func matchesEmpty(m mark) bool {
	switch x := m.(type) {
	case leaf:
		return false
	case pair:
		return matchesEmpty(x.head) && matchesEmpty(x.tail)
	case either:
		return matchesEmpty(x.left) || matchesEmpty(x.right)
	}
	return true
}

// way is a way through a rule: the place that matched last, and what is yet to match.
type way struct {
	place int
	rest  mark
}

func steps(m mark, scalar rune) []way {
	switch x := m.(type) {
	case leaf:
		if x.class.Has(scalar) {
			return []way{{x.place, nothing{}}}
		}
	case either:
		return append(steps(x.left, scalar), steps(x.right, scalar)...)
	case again:
		return before(steps(x.inner, scalar), x)
	case pair:
		out := before(steps(x.head, scalar), x.tail)
		if matchesEmpty(x.head) {
			out = append(out, steps(x.tail, scalar)...)
		}
		return out
	}
	return nil
}

func before(ways []way, tail mark) []way {
	for i, w := range ways {
		if w.rest == mark(nothing{}) {
			ways[i].rest = tail
		} else {
			ways[i].rest = pair{w.rest, tail}
		}
	}
	return ways
}

// countSets counts the different sets of the texts over the scalars.
func countSets(rules []tree.Node, alphabet []rune) int {
	next := 0
	var start []way
	for _, rule := range rules {
		start = append(start, way{-1, marked(rule, &next)})
	}
	met := map[string]bool{}
	sets := map[string]bool{}
	queue := [][]way{start}
	for len(queue) > 0 {
		ways := queue[0]
		queue = queue[1:]
		for _, scalar := range alphabet {
			after, all, places := stepAll(ways, scalar)
			if len(after) > 0 && !met[all] {
				met[all], sets[places] = true, true
				queue = append(queue, after)
			}
		}
	}
	return len(sets)
}

// stepAll gives the ways behind the scalar, and two names: of all of them, and of their places alone.
func stepAll(ways []way, scalar rune) ([]way, string, string) {
	byName := map[string]way{}
	byPlace := map[string]bool{}
	for _, w := range ways {
		for _, after := range steps(w.rest, scalar) {
			byName[fmt.Sprint(after.place, ":", after.rest)] = after
			byPlace[fmt.Sprint(after.place)] = true
		}
	}
	var after []way
	for _, w := range byName {
		after = append(after, w)
	}
	return after, joinedKeys(byName), joinedKeys(byPlace)
}

func joinedKeys[V any](m map[string]V) string {
	var keys []string
	for k := range m {
		keys = append(keys, k)
	}
	sort.Strings(keys)
	return strings.Join(keys, ",")
}
