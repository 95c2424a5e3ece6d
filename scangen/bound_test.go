package scangen_test

import (
	"testing"

	"scangen/api"
)

func TestP7(t *testing.T) {
	for _, c := range []struct {
		rules []string
		want  int
	}{
		{[]string{"a", "ab", "abc*d"}, -1}, {[]string{"a", "abcd"}, 3}, {[]string{"é{2}"}, 4}, {[]string{"a*"}, 1},
		{[]string{""}, 1}, {[]string{"a{0}", "()*"}, 1}, {[]string{"", "ab"}, 2},
		{[]string{"abc"}, 3}, {[]string{"a|bcd|ef"}, 3}, {[]string{"a", "b", "abc"}, 2}, {[]string{"ab", "cdef"}, 4}, {[]string{"(a{8}){8}"}, 64},
		{[]string{"a+b"}, -1}, {[]string{"a*b"}, -1}, {[]string{"(ab)*c"}, -1}, {[]string{"(ab)*"}, 2}, {[]string{"(abc)+"}, 3}, {[]string{"x(ab)*c", "x(ab)*"}, 2},
		{[]string{"a+b", "a+"}, 1}, {[]string{"a+b", "aa+"}, 2}, {[]string{"a+b", "a{1,8}"}, -1}, {[]string{"a+b", "(aa)+"}, 2}, {[]string{"ab*c", "ab{3,}"}, 4},
		{[]string{"\"[^\"]*\""}, -1}, {[]string{"//[^\\n]*"}, 4}, {[]string{"/\\*([^*]|\\*+[^*/])*\\*+/"}, -1}, {[]string{"[0-9]+", "[0-9]+\\.[0-9]+(e[\\-+]?[0-9]+)?"}, 3},
		{[]string{"é"}, 2}, {[]string{"aé"}, 3}, {[]string{"éa"}, 3}, {[]string{"a", "aé"}, 2}, {[]string{"a", "aéb"}, 3}, {[]string{"€{3}"}, 9}, {[]string{"€{3}", "€"}, 6}, {[]string{"😀a"}, 5},
		{[]string{"."}, 4}, {[]string{".."}, 8}, {[]string{".+"}, 4}, {[]string{".+", "\\n"}, 4}, {[]string{"[a-é]b"}, 3}, {[]string{"[aé]b|€"}, 3}, {[]string{"[^a]a"}, 5},
		{[]string{"(a|b)*a(a|b){6}"}, -1}, {[]string{"(a|b)*a(a|b){6}", "[ab]+"}, 1},
		{[]string{"(a|b)*a(a|b){6}", "[ab]", "(d|e)*d(d|e){5}"}, -1},
	} {
		tables := compile(t, c.rules...)
		for range 2 {
			if got := tables.Bound(); got != c.want {
				t.Errorf("P7: the bound of %q is %d, want %d", c.rules, got, c.want)
			}
		}
	}
}

// dripping is a reader that gives one byte at a time.
type dripping struct {
	text  string
	given int
}

func (d *dripping) Read(p []byte) (int, error) {
	if d.given == len(d.text) {
		return 0, api.ErrEnd
	}
	p[0] = d.text[d.given]
	d.given++
	return 1, nil
}

// Behind a token that a rule matches a scanner asks for no more bytes than the bound, and at some text for just as many.
func TestP7IsWhatScannersNeed(t *testing.T) {
	given := texts([]string{"a", "b", "é", "😀", "\xc3", "\xf0\x9f\x98"}, 4)
	for _, rules := range [][]string{{"a"}, {"a", "abab"}, {"é", "é{3}"}, {"a*(bé)*"}, {"[ab]+", "[ab]+é😀", "é"}, {"a", "a[^b]"}, {"a", "a.b"}, {"b", "b(a|é|😀)a"}} {
		tables := compile(t, rules...)
		most := 0
		for _, text := range given {
			reader := &dripping{text: text + "\xff"}
			for token, err := range scanner(t, tables, reader, 100).Tokens() {
				if err == nil && token.Rule >= 0 {
					most = max(most, reader.given-token.At-len(token.Text))
				}
			}
		}
		if got := tables.Bound(); got != most {
			t.Errorf("P7: the bound of %q is %d, but scanners asked for %d bytes", rules, got, most)
		}
	}
}
