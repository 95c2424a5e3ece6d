package walk

import (
	"testing"
	"unicode/utf8"

	"scangen/places"
	"scangen/tree"
)

func machine(t *testing.T, rules ...string) *places.Machine {
	t.Helper()
	var trees []tree.Node
	for i, rule := range rules {
		root, err := tree.Read(rule, i)
		if err != nil {
			t.Fatalf("Read(%q): %v", rule, err)
		}
		trees = append(trees, root)
	}
	m, err := places.Build(trees)
	if err != nil {
		t.Fatalf("Build(%q): %v", rules, err)
	}
	return m
}

// beginnings gives all beginnings of the bytes of the scalars, written as bytes.
func beginnings(has func(rune) bool) map[string]bool {
	all := map[string]bool{"": true}
	for scalar := range rune(utf8.MaxRune + 1) {
		if !utf8.ValidRune(scalar) || !has(scalar) {
			continue
		}
		text := string(scalar)
		for n := range len(text) {
			all[text[:n+1]] = true
		}
	}
	return all
}

// someBytes gives texts of up to four bytes: all of one and of two, and of the longer ones those at whose edges something changes.
func someBytes() []string {
	tails := "\x00a\x7f\x80\x81\x8f\x90\x9f\xa0\xac\xbe\xbf\xc0\xff"
	all := []string{""}
	for a := range 256 {
		one := string([]byte{byte(a)})
		all = append(all, one)
		for b := range 256 {
			two := one + string([]byte{byte(b)})
			all = append(all, two)
			if a < 0xC0 || b < 0x7F || b > 0xC0 {
				continue
			}
			for i := range len(tails) {
				three := two + tails[i:i+1]
				all = append(all, three)
				for j := range len(tails) {
					all = append(all, three+tails[j:j+1])
				}
			}
		}
	}
	return all
}

func TestAliveAmidAScalar(t *testing.T) {
	texts := someBytes()
	for _, c := range []struct {
		rule string
		has  func(rune) bool
	}{
		{`[^a]`, func(r rune) bool { return r != 'a' }},
		{`[^\u{0}-\u{ffff}]`, func(r rune) bool { return r > 0xFFFF }},
		{`[\u{0}-\u{7ff}]`, func(r rune) bool { return r < 0x800 }},
		{`[\u{800}-\u{fff}]`, func(r rune) bool { return 0x800 <= r && r <= 0xFFF }},
		{`[a\u{80}\u{7ff}]`, func(r rune) bool { return r == 'a' || r == 0x80 || r == 0x7FF }},
		{`[\u{d7ff}-\u{e000}]`, func(r rune) bool { return 0xD7FF <= r && r <= 0xE000 }},
		{`[\u{e000}-\u{10000}]`, func(r rune) bool { return 0xE000 <= r && r <= 0x10000 }},
		{`[€\u{1f600}-\u{1f64f}]`, func(r rune) bool { return r == '€' || 0x1F600 <= r && r <= 0x1F64F }},
		{`[\u{fffd}\u{100000}]`, func(r rune) bool { return r == 0xFFFD || r == 0x100000 }},
		{`\u{10ffff}`, func(r rune) bool { return r == 0x10FFFF }},
	} {
		m := machine(t, c.rule)
		alive := beginnings(c.has)
		for _, text := range texts {
			w := Of(m)
			if got := w.Alive([]byte(text)); got != alive[text] {
				t.Fatalf("P6: by %s %q is alive: %v", c.rule, text, got)
			}
		}
	}
}

func TestAliveGoesOn(t *testing.T) {
	m := machine(t, "a", "aé", "aéb*€")
	for _, c := range []struct {
		text         string
		alive        string // of each beginning, from the empty one on
		rule, length int
	}{
		{"", "+", -1, 0},
		{"b", "+-", -1, 0},
		{"aéb€", "++++++++", 2, 7},
		{"aéb€€", "++++++++---", 2, 7},
		{"aébb\xe2\x82", "++++++++", 1, 3},
		{"aéb\xe2\xac", "++++++-", 1, 3},
		{"a\xc3\xa8€", "+++----", 0, 1},
		{"aa", "++-", 0, 1},
		{"\xc3\xa9", "+--", -1, 0},
	} {
		w := Of(m)
		got := ""
		for n := range len(c.text) + 1 {
			if w.Alive([]byte(c.text[:n])) {
				got += "+"
			} else {
				got += "-"
			}
		}
		if got != c.alive || w.Rule != c.rule || w.Length != c.length {
			t.Errorf("P6: %q: %s, rule %d, %d bytes; want %s, %d, %d", c.text, got, w.Rule, w.Length, c.alive, c.rule, c.length)
		}
	}
}
