package scangen_test

import (
	"regexp"
	"testing"
	"unicode/utf8"

	"scangen/api"
	"scangen/plain"
)

// language is what some rules match, among texts of a few letters: it takes the document by its words, and knows of no machine.
type language struct {
	rule  map[string]int  // by text: the first rule that matches it
	alive map[string]bool // by the bytes of a text
}

func languageOf(rules, texts []string) language {
	l := language{map[string]int{}, map[string]bool{"": true}}
	for i := len(rules) - 1; i >= 0; i-- {
		asked := regexp.MustCompile(`\A(?:` + rules[i] + `)\z`)
		for _, text := range texts {
			if !asked.MatchString(text) {
				continue
			}
			l.rule[text] = i
			for n := range len(text) {
				l.alive[text[:n+1]] = true
			}
		}
	}
	return l
}

// next gives the rule and the length of the next token, or the error.
func (l language) next(rest string, fails bool, capacity int, parts map[string]bool) (int, int, error) {
	if len(rest) >= capacity && l.alive[rest[:capacity]] {
		return 0, 0, api.ErrTooLong
	}
	if fails && l.alive[rest] {
		return 0, 0, api.ErrSource
	}
	if rest == "" {
		return 0, 0, api.ErrEnd
	}
	for n := len(rest); n > 0; n-- {
		if rule, matches := l.rule[rest[:n]]; matches {
			return rule, n, nil
		}
	}
	if fails && parts[rest] {
		return 0, 0, api.ErrSource
	}
	_, n := utf8.DecodeRuneInString(rest)
	return -1, n, nil
}

func (l language) all(text string, fails bool, capacity int, parts map[string]bool) string {
	out := ""
	for at := 0; ; {
		rule, n, err := l.next(text[at:], fails, capacity, parts)
		if err != nil {
			return out + err.Error()
		}
		line, column := 1, 1
		for _, scalar := range text[:at] {
			column++
			if scalar == '\n' {
				line, column = line+1, 1
			}
		}
		out += written(api.Token{Rule: rule, At: at, Line: line, Column: column, Text: text[at : at+n]})
		at += n
	}
}

// partsOfScalars gives what may yet become a scalar.
func partsOfScalars() map[string]bool {
	parts := map[string]bool{}
	for scalar := range rune(utf8.MaxRune + 1) {
		if !utf8.ValidRune(scalar) {
			continue
		}
		text := string(scalar)
		for n := 1; n < len(text); n++ {
			parts[text[:n]] = true
		}
	}
	return parts
}

// oracleRules: each alive text of four letters is the beginning of a text of six that matches.
func oracleRules() [][]string {
	return [][]string{
		{"a", "ab", "ab€*b"},
		{"a*b", "a"},
		{"(é|€)+a", "€"},
		{"é{2}", "é"},
		{".", "\\n"},
		{"[^a]+", "a"},
		{"..b?", "a{2}|€.€"},
		{"(ab|é€){2}", "a|b"},
		{"(a|b|\\n)*", "[^b]b"},
		{"", "b{0,2}€", "€"},
		{"€{2,}", "(€a?)+\\n"},
		{"[a-é]+", "[€b]{1,3}"},
		{"(a?é?){3}", "aé", "\\n+"},
	}
}

func TestP10ByTheWords(t *testing.T) {
	parts := partsOfScalars()
	letters := texts([]string{"a", "b", "é", "€", "\n"}, 6)
	given := texts([]string{"a", "b", "é", "€", "\n", "\xc3", "\xe2", "\xe2\x82", "\xff"}, 4)
	for _, rules := range oracleRules() {
		tables := compile(t, rules...)
		asked := languageOf(rules, letters)
		for i, text := range given {
			for kind := range 2 {
				capacity := []int{4, 5, 6, 100}[i%4]
				want := asked.all(text, kind == 1, capacity, parts)
				fail := plain.Piece{Kind: kind}
				half := len(text) / 2
				for _, pieces := range [][]plain.Piece{
					{{Text: text, Kind: kind * 5}},
					append(bytewise(text), fail),
					{{Text: text[:half], N: 7}, {Text: text[half:]}, fail},
				} {
					if got := scan(t, tables, capacity, pieces...); got != want {
						t.Fatalf("P2, P10: %q of %v, capacity %d: %s, want %s", rules, pieces, capacity, got, want)
					}
				}
			}
		}
	}
}
