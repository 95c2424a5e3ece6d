package scangen_test

import (
	"errors"
	"strings"
	"testing"

	"scangen/api"
	"scangen/plain"
	"scangen/scangen"
)

// storedRules are rules whose tables are written and loaded.
func storedRules() [][]string {
	return append(oracleRules(), [][]string{
		{""}, {"a"}, {"a", "ab", "abc*d"}, {"ab|c", "é*x"}, {"(a{8}){8}"}, {"[^a]", "a"},
		{`[\u{0}-\u{10ffff}]`}, {`[\u{d7ff}-\u{e000}]+`, `\u{10ffff}`}, {"[ace]", "[bdf]", `[\u{100}\u{102}-\u{104}😀]`},
		{"a", "b", "é", "€", "\\n", "ab", "bé", "[^a]€"},
		{"(a|b)*a(a|b){6}", "", "(d|e)*d(d|e){5}", "uuuuuuuu"},
	}...)
}

func load(t *testing.T, s string) *scangen.Tables {
	t.Helper()
	tables, err := scangen.Load(s)
	if err != nil || tables == nil {
		t.Fatalf("P8: Load(%q): %v", s, err)
	}
	return tables
}

func TestP8LoadedDoTheSame(t *testing.T) {
	given := texts([]string{"a", "b", "é", "€", "\n", "\xe2\x82", "\xff"}, 3)
	for _, rules := range storedRules() {
		made := compile(t, rules...)
		s := made.Encode()
		loaded := load(t, s)
		if len(s) == 0 || made.Encode() != s || compile(t, rules...).Encode() != s || loaded.Encode() != s {
			t.Errorf("P8: %q is written as %q, loaded as %q", rules, s, loaded.Encode())
		}
		if made.Bound() != loaded.Bound() {
			t.Errorf("P8: the bound of %q is %d, loaded %d", rules, made.Bound(), loaded.Bound())
		}
		for i, text := range given {
			piece := plain.Piece{Text: text + text, Kind: i % 6}
			if got, want := scan(t, loaded, 4+i%3, piece), scan(t, made, 4+i%3, piece); got != want {
				t.Fatalf("P8: %q of %+v: %s, loaded: %s", rules, piece, want, got)
			}
		}
	}
}

// Tables that do not do the same are not written as the same bytes.
func TestP8EachItsOwnBytes(t *testing.T) {
	known := map[string][]string{}
	for _, rules := range storedRules() {
		s := compile(t, rules...).Encode()
		if other, met := known[s]; met {
			t.Errorf("P8: %q and %q are both written as %q", rules, other, s)
		}
		known[s] = rules
	}
}

// checkLoad loads bytes that may be no tables, looks at what holds for all bytes, and tells whether they are tables.
func checkLoad(t *testing.T, s string) bool {
	t.Helper()
	tables, err := scangen.Load(s)
	if err != nil {
		var fault *api.Fault
		if tables != nil || !errors.Is(err, api.ErrTables) || errors.As(err, &fault) {
			t.Fatalf("P8: Load(%q): tables: %v, %v", s, tables != nil, err)
		}
		return false
	}
	if got := tables.Encode(); got != s {
		t.Fatalf("P8: Load(%q) is written as %q", s, got)
	}
	if bound := tables.Bound(); bound < 1 && bound != -1 || bound != load(t, s).Bound() {
		t.Fatalf("P7: Load(%q) has the bound %d", s, bound)
	}
	for _, text := range []string{"", "abcéxab\xff", "\x00\x01\x02\x03é\U0010FFFF\ue000\ud7ff", "\xed\xa0\x80\xf4\x90\x80\x80\xc3"} {
		checkTokens(t, tables, text)
	}
	return true
}

// checkTokens: they make up the text, in whatever pieces it comes.
func checkTokens(t *testing.T, tables *scangen.Tables, text string) {
	t.Helper()
	tokens, err := plain.All(scanner(t, tables, plain.NewSource([]plain.Piece{{Text: text}}), 1000), 1000)
	joined := ""
	for _, token := range tokens {
		if token.At != len(joined) || token.Text == "" || token.Rule < -1 || token.Rule >= api.MaxRules {
			t.Fatalf("P8: of %q there is the token %+v", text, token)
		}
		joined += token.Text
	}
	if joined != text || err != api.ErrEnd {
		t.Fatalf("P8: the tokens of %q make up %q, %v", text, joined, err)
	}
	for kind := range 6 {
		for _, capacity := range []int{4, 1000} {
			whole := scan(t, tables, capacity, plain.Piece{Text: text, Kind: kind})
			if pieces := scan(t, tables, capacity, append(bytewise(text), plain.Piece{Kind: kind})...); pieces != whole {
				t.Fatalf("P2: %q: %s, in pieces %s", text, whole, pieces)
			}
		}
	}
}

// spoilt gives the bytes with one changed, left out, doubled, added, and with what is behind or ahead of it cut off.
func spoilt(s string) []string {
	all := []string{s + s, s + "\x00", "\x00" + s}
	for i := range len(s) {
		ahead, behind := s[:i], s[i+1:]
		all = append(all, ahead, s[i:], ahead+behind, ahead+s[i:i+1]+s[i:])
		for b := range 256 {
			changed := string([]byte{byte(b)})
			all = append(all, ahead+changed+behind)
			if b < 8 || b%64 == 0 {
				all = append(all, ahead+changed+s[i:])
			}
		}
	}
	return all
}

func TestP8WhatNobodyWrote(t *testing.T) {
	for _, rules := range [][]string{{""}, {"a"}, {"ab|c", "é*x"}, {"a", "ab", "abc*d"}, {".", "[é-€]+"}} {
		loaded := 0
		for _, s := range spoilt(compile(t, rules...).Encode()) {
			if checkLoad(t, s) {
				loaded++
			}
		}
		if loaded == 0 {
			t.Errorf("P8: nothing of %q was loaded, and its scanners were not looked at", rules)
		}
	}
}

func TestP8AnyBytes(t *testing.T) {
	for _, s := range []string{"", "x", "\x00\x00\x00", strings.Repeat("\xff", 100), strings.Repeat("\x00", 1<<20), strings.Repeat("\x01", 1<<20), "a+", "[a-z]"} {
		if checkLoad(t, s) {
			t.Errorf("P8: %.20q is loaded", s)
		}
	}
	for first := range 256 {
		for second := range 256 {
			checkLoad(t, string([]byte{byte(first)}))
			checkLoad(t, string([]byte{byte(first), byte(second)}))
		}
	}
}

// languageOfTables asks scanners which of the texts are one token, and of which rule.
func languageOfTables(t *testing.T, tables *scangen.Tables, texts []string) language {
	l := language{map[string]int{}, map[string]bool{"": true}}
	for _, text := range texts {
		token, err := scanner(t, tables, plain.NewSource([]plain.Piece{{Text: text}}), 100).Next()
		if err != nil || token.Rule < 0 || token.Text != text {
			continue
		}
		l.rule[text] = token.Rule
		for n := range len(text) {
			l.alive[text[:n+1]] = true
		}
	}
	return l
}

// smallTables gives bytes in which all tables are of two kinds of scalars that lead on, and of at most three states.
func smallTables() []string {
	var all []string
	for _, row := range texts([]string{"\x00", "\x01", "\x02", "\x03"}, 9) {
		s := "\x03" + "\x00\x00" + "\x01\x01" + "\x02\x02"
		for ; len(row) >= 3; row = row[3:] {
			s += row[:3] + "\x00"
		}
		if row == "" {
			all = append(all, s)
		}
	}
	return all
}

// longestTail is the most bytes that an alive text has behind the longest of its beginnings that a rule matches.
func (l language) longestTail() int {
	most := 0
	for text := range l.alive {
		n := len(text)
		for ; n > 0; n-- {
			if _, matches := l.rule[text[:n]]; matches {
				break
			}
		}
		most = max(most, len(text)-n)
	}
	return most
}

// Texts of seven letters lead through all states of small tables, and twice through those that go round: whichever rule matches what, the tokens are as P10 says, and the bound as P7 does.
func TestP8LoadedByTheWords(t *testing.T) {
	letters := texts([]string{"\x00", "\x01"}, 7)
	given := texts([]string{"\x00", "\x01", "\x02"}, 3)
	loaded := 0
	for _, s := range smallTables() {
		tables, err := scangen.Load(s)
		if err != nil {
			continue
		}
		loaded++
		asked := languageOfTables(t, tables, letters)
		want := 1 + asked.longestTail()
		if want > 3 {
			want = -1
		}
		if got := tables.Bound(); got != want {
			t.Fatalf("P7: the bound of Load(%q) is %d, want %d", s, got, want)
		}
		for i, text := range given {
			kind, capacity := i%2, []int{4, 100}[i/2%2]
			want := asked.all(text, kind == 1, capacity, nil)
			if got := scan(t, tables, capacity, plain.Piece{Text: text, Kind: kind}); got != want {
				t.Fatalf("P10: Load(%q) of %q: %s, want %s", s, text, got, want)
			}
		}
	}
	if loaded < 1000 {
		t.Errorf("P8: only %d tables were loaded", loaded)
	}
}
