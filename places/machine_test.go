package places

import (
	"errors"
	"regexp"
	"strings"
	"testing"

	"scangen/api"
	"scangen/tree"
)

func read(t *testing.T, rules ...string) []tree.Node {
	t.Helper()
	var trees []tree.Node
	for i, rule := range rules {
		root, err := tree.Read(rule, i)
		if err != nil {
			t.Fatalf("Read(%q): %v", rule, err)
		}
		trees = append(trees, root)
	}
	return trees
}

func build(t *testing.T, rules ...string) *Machine {
	t.Helper()
	m, err := Build(read(t, rules...))
	if err != nil {
		t.Fatalf("Build(%q): %v", rules, err)
	}
	return m
}

func kindOf(m *Machine, scalar rune) int {
	kind := None
	for _, c := range m.Cuts {
		if c.Low <= scalar {
			kind = c.Kind
		}
	}
	return kind
}

// run gives the state behind the text, or None.
func run(m *Machine, text string) int {
	state := 0
	for _, scalar := range text {
		if state != None {
			state = m.States[state].Next[kindOf(m, scalar)]
		}
	}
	return state
}

// matched gives the first rule that matches a text that is not empty, or None.
func matched(m *Machine, text string) int {
	if state := run(m, text); state != None {
		return m.States[state].Rule
	}
	return None
}

// someRules are rules over a and b of every kind of part, one within the other.
func someRules() []string {
	suffixes := []string{"", "*", "+", "?", "{0}", "{2}", "{0,2}", "{1,3}", "{2,}"}
	var parts, rules []string
	for _, suffix := range suffixes {
		parts = append(parts, "a"+suffix, "b"+suffix)
	}
	for i, p := range parts {
		for j, q := range parts {
			for k, suffix := range suffixes {
				if strings.HasPrefix(suffix, "{") && strings.Contains(p, "{0}") && strings.Contains(q, "{0}") {
					continue
				}
				sign := []string{"", "|", "|b"}[(i+j+k)%3]
				tail := []string{"", "a", "[ab]", "b*"}[(i+2*j+k)%4]
				rules = append(rules, "("+p+sign+q+")"+suffix+tail)
			}
		}
	}
	return rules
}

func someTexts(longest int) []string {
	texts := []string{"a", "b"}
	for from := 0; len(texts[from]) < longest; from++ {
		texts = append(texts, texts[from]+"a", texts[from]+"b")
	}
	return texts
}

func TestP5Matches(t *testing.T) {
	texts := someTexts(6)
	for _, rule := range someRules() {
		m := build(t, rule)
		asked := regexp.MustCompile(`\A(?:` + rule + `)\z`)
		for _, text := range texts {
			if got, want := matched(m, text) == 0, asked.MatchString(text); got != want {
				t.Fatalf("P5: %q matches %q: %v, want %v", rule, text, got, want)
			}
		}
	}
}

func TestP5MatchesScalars(t *testing.T) {
	all := []string{"\x00", "\t", "\n", "\r", " ", "-", "^", "a", "b", "c", "z", "\x7f", "\u0080", "é", "ê", "\ud7ff", "\ue000", "\ufffd", "\U0001F600", "\U0010FFFF"}
	for _, c := range []struct{ rule, matches string }{
		{".", "\x00\t\r -^abcz\x7f\u0080éê\ud7ff\ue000\ufffd\U0001F600\U0010FFFF"},
		{"é", "é"},
		{`\n`, "\n"},
		{`\u{1f600}`, "\U0001F600"},
		{"[a-z]", "abcz"},
		{"[^a-z]", "\x00\t\n\r -^\x7f\u0080éê\ud7ff\ue000\ufffd\U0001F600\U0010FFFF"},
		{"[ab-é]", "abcz\x7f\u0080é"},
		{`[\t-\r\-^]`, "\t\n\r-^"},
		{`[\u{d7ff}-\u{e000}]`, "\ud7ff\ue000"},
		{`[^\u{0}-\u{d7ff}\u{e000}-\u{10fffe}]`, "\U0010FFFF"},
		{"\ufffd", "\ufffd"},
	} {
		m := build(t, c.rule)
		for _, text := range all {
			if got, want := matched(m, text) == 0, strings.Contains(c.matches, text); got != want {
				t.Errorf("P5: %q matches %q: %v, want %v", c.rule, text, got, want)
			}
		}
	}
}

func TestP5FirstRule(t *testing.T) {
	m := build(t, "a", "ab", "[a-z]+", "abc*d", "")
	for text, want := range map[string]int{"a": 0, "ab": 1, "abc": 2, "abcd": 2, "b": 2, "A": None, "aB": None} {
		if got := matched(m, text); got != want {
			t.Errorf("P5: the first rule that matches %q is %d, want %d", text, got, want)
		}
	}
}

func TestP6SetsByTheWords(t *testing.T) {
	for _, rule := range someRules() {
		for _, rules := range [][]string{{rule}, {"ab*", rule}} {
			if got, want := len(build(t, rules...).States)-1, countSets(read(t, rules...), []rune{'a', 'b'}); got != want {
				t.Fatalf("P6: the texts of %q have %d sets, want %d", rules, got, want)
			}
		}
	}
}

func TestP6Sets(t *testing.T) {
	for _, c := range []struct {
		rules []string
		want  int
	}{
		{[]string{""}, 0},
		{[]string{"a{0}", "(|)*"}, 0},
		{[]string{"abc"}, 3},
		{[]string{"a|b"}, 2},
		{[]string{"[ab]"}, 1},
		{[]string{"[ab]", "[bc]"}, 3},
		{[]string{"a", "a"}, 1},
		{[]string{"a*"}, 1},
		{[]string{"a{8}"}, 8},
		{[]string{"a{0,8}"}, 8},
		{[]string{"a{8,}"}, 8},
		{[]string{".", `\n`}, 2},
		{[]string{".", "é", "."}, 2},
		{[]string{"(a|b)*a(a|b){6}"}, 128},
	} {
		if got := len(build(t, c.rules...).States) - 1; got != c.want {
			t.Errorf("P6: the texts of %q have %d sets, want %d", c.rules, got, c.want)
		}
	}
}

func TestP6TooManySets(t *testing.T) {
	m, err := Build(read(t, "(a|b)*a(a|b){7}"))
	if m != nil || !errors.Is(err, api.ErrStates) {
		t.Errorf("P6: Build of too many sets = %v, %v", m, err)
	}
}
