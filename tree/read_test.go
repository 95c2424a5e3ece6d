package tree

import (
	"errors"
	"fmt"
	"strings"
	"testing"

	"scangen/api"
)

// drawn writes a tree with every row in parentheses and every class as its ranges.
func drawn(node Node) string {
	var b strings.Builder
	switch n := node.(type) {
	case Class:
		for _, r := range n.Set {
			if r.Low == r.High {
				fmt.Fprintf(&b, "<%x>", r.Low)
			} else {
				fmt.Fprintf(&b, "<%x-%x>", r.Low, r.High)
			}
		}
		if len(n.Set) > 1 {
			return "[" + b.String() + "]"
		}
	case Row:
		for _, part := range n {
			b.WriteString(drawn(part))
		}
		return "(" + b.String() + ")"
	case Alt:
		for i, row := range n {
			if i > 0 {
				b.WriteString("|")
			}
			b.WriteString(drawn(row))
		}
	case Times:
		return fmt.Sprintf("%s{%d,%d}", drawn(n.Atom), n.Least, n.Most)
	}
	return b.String()
}

func TestP4Trees(t *testing.T) {
	for _, c := range []struct{ rule, want string }{
		{"", "()"},
		{"|", "()|()"},
		{"()", "(())"},
		{"a|bc|", "(<61>)|(<62><63>)|()"},
		{"ab*", "(<61><62>{0,-1})"},
		{"(ab)+c?", "((<61><62>){1,-1}<63>{0,1})"},
		{"a{3}b{2,}c{0,8}", "(<61>{3,3}<62>{2,-1}<63>{0,8})"},
		{"a{03}b{00,08}", "(<61>{3,3}<62>{0,8})"},
		{".", "([<0-9><b-d7ff><e000-10ffff>])"},
		{"-^$,:", "(<2d><5e><24><2c><3a>)"},
		{"é€😀\uFFFD", "(<e9><20ac><1f600><fffd>)"},
		{`\n\t\r\.\\\-\^`, "(<a><9><d><2e><5c><2d><5e>)"},
		{`\u{0}\u{61}\u{0000e9}\u{10FfFf}\u{D7ff}\u{e000}`, "(<0><61><e9><10ffff><d7ff><e000>)"},
		{"[a]", "(<61>)"},
		{"[a-c]", "(<61-63>)"},
		{"[a-a]", "(<61>)"},
		{"[c-ea-cz^]", "([<5e><61-65><7a>])"},
		{"[.*+?(){}|]", "([<28-2b><2e><3f><7b-7d>])"},
		{`[\n-\r\]\[\--\\^]`, "([<a-d><2d-5e>])"},
		{"[^a]", "([<0-60><62-d7ff><e000-10ffff>])"},
		{"[^^]", "([<0-5d><5f-d7ff><e000-10ffff>])"},
		{`[\^]`, "(<5e>)"},
		{`[^\u{0}-\u{d7ff}\u{e001}-\u{10ffff}]`, "(<e000>)"},
		{`[\u{d7ff}-\u{e000}]`, "([<d7ff><e000>])"},
		{"[^\uFFFD]", "([<0-d7ff><e000-fffc><fffe-10ffff>])"},
	} {
		root, err := Read(c.rule, 0)
		if err != nil {
			t.Errorf("Read(%q): %v", c.rule, err)
		} else if got := drawn(root); got != c.want {
			t.Errorf("Read(%q) = %s, want %s", c.rule, got, c.want)
		}
	}
}

func TestP6Places(t *testing.T) {
	for _, c := range []struct {
		rule string
		want int
	}{
		{"", 0},
		{"()|()", 0},
		{"a[bc].é", 4},
		{"a*b+c?", 3},
		{"a{0}", 0},
		{"a{0,0}", 0},
		{"a{5}", 5},
		{"a{2,7}", 7},
		{"a{0,7}", 7},
		{"a{4,}", 4},
		{"a{1,}", 1},
		{"a{0,}", 1},
		{"(ab|c){3}d", 10},
		{"((ab){2}c{0}d*){3,}", 15},
		{"((((((((a{8}){8}){8}){8}){8}){8}){8}){8}){8}", 1 << 27},
	} {
		root, err := Read(c.rule, 0)
		if err != nil {
			t.Errorf("Read(%q): %v", c.rule, err)
		} else if got := root.Places(); got != c.want {
			t.Errorf("%q has %d places, want %d", c.rule, got, c.want)
		}
	}
}

func TestReadNamesTheRule(t *testing.T) {
	root, err := Read("ab)", 5)
	var f *api.Fault
	if root != nil || !errors.As(err, &f) || *f != (api.Fault{E: api.ErrSyntax, Rule: 5, At: 2}) {
		t.Errorf("Read of what is wrong = %v, %v", root, err)
	}
}
