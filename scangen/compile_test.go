package scangen_test

import (
	"errors"
	"slices"
	"strconv"
	"strings"
	"testing"
	"unicode/utf8"

	"scangen/api"
	"scangen/plain"
	"scangen/scangen"
)

// told compiles, and writes what is told as name, rule and place; it checks what holds for every answer (P1, and how errors are told).
func told(t *testing.T, rules ...string) string {
	t.Helper()
	tables, err := scangen.Compile(rules)
	if (tables == nil) != (err != nil) {
		t.Fatalf("P1: Compile(%q) = tables: %v, %v", rules, tables != nil, err)
	}
	if err == nil {
		return "OK"
	}
	e, rule, at := plain.Told(err)
	if !errors.Is(err, e) {
		t.Fatalf("Compile(%q): %v is not %v", rules, err, e)
	}
	if rule == -1 && at == -1 {
		return e.Error()
	}
	if rule < 0 || rule >= len(rules) || at < 0 || at > len(rules[rule]) {
		t.Fatalf("Compile(%q): %v is no place", rules, err)
	}
	return e.Error() + " " + strconv.Itoa(rule) + " " + strconv.Itoa(at)
}

// single is a rule and what is told of it alone.
type single struct{ rule, want string }

func check(t *testing.T, promise string, list []single) {
	t.Helper()
	for _, c := range list {
		if got := told(t, c.rule); got != c.want {
			t.Errorf("%s: Compile of %q: %s, want %s", promise, c.rule, got, c.want)
		}
		moved := strings.Replace(c.want, " 0 ", " 2 ", 1)
		if got := told(t, "x", "", c.rule, "("); c.want != "OK" && got != moved {
			t.Errorf("%s: Compile of %q as rule 2: %s, want %s", promise, c.rule, got, moved)
		}
	}
}

type several struct {
	rules []string
	want  string
}

func checkAll(t *testing.T, promise string, list []several) {
	t.Helper()
	for _, c := range list {
		if got := told(t, c.rules...); got != c.want {
			t.Errorf("%s: Compile of %q: %s, want %s", promise, c.rules, got, c.want)
		}
	}
}

// texts gives all texts of at most so many of the letters.
func texts(letters []string, most int) []string {
	all := []string{""}
	for from, length := 0, 0; length < most; length++ {
		to := len(all)
		for _, text := range all[from:to] {
			for _, letter := range letters {
				all = append(all, text+letter)
			}
		}
		from = to
	}
	return all
}

func TestP1NoPanicAndAlikeTwice(t *testing.T) {
	letters := []string{"a", "(", ")", "[", "]", "^", "-", "|", "*", "?", "{", "}", "1", ",", ".", "\\", "u", "é", "\xff", "\xe2"}
	for _, text := range texts(letters, 4) {
		if first, second := told(t, text), told(t, text); first != second {
			t.Fatalf("P1: Compile of %q: %s, then %s", text, first, second)
		}
	}
	for b := range 256 {
		for _, frame := range []string{"%", "[%]", "\\%", "a{%}", "\\u{%}", "(%", "[^%-%]", "\xe2\x82%"} {
			told(t, strings.ReplaceAll(frame, "%", string([]byte{byte(b)})))
		}
	}
}

func TestP1FirstNamed(t *testing.T) {
	long := strings.Repeat("(", 61)
	checkAll(t, "P1", []several{
		{slices.Repeat([]string{long}, 9), "ErrRules"},
		{[]string{"(", "a", long, long}, "ErrRules 2 0"},
		{[]string{"(a{8}){8}a", "[b-a]"}, "ErrSize 0 0"},
		{[]string{"(a|b)*a(a|b){7}", "("}, "ErrSyntax 1 1"},
		{[]string{"(a|b)*a(a|b){7}", "(c{8}){8}"}, "ErrSize 1 0"},
	})
}

func TestP2RulesAreLeft(t *testing.T) {
	backing := []string{"a", "b*", "c", "d"}
	for n := range len(backing) {
		scangen.Compile(backing[:n])
	}
	if want := []string{"a", "b*", "c", "d"}; !slices.Equal(backing, want) {
		t.Errorf("P2: what was handed in reads %q", backing)
	}
}

func TestP3(t *testing.T) {
	a := strings.Repeat
	checkAll(t, "P3", []several{
		{nil, "ErrRules"},
		{[]string{}, "ErrRules"},
		{[]string{""}, "OK"},
		{slices.Repeat([]string{"a"}, 8), "OK"},
		{slices.Repeat([]string{"a"}, 9), "ErrRules"},
		{[]string{a("a", 60)}, "OK"},
		{[]string{a("a", 61)}, "ErrRules 0 0"},
		{[]string{a("é", 30)}, "OK"},
		{[]string{a("é", 30) + "a"}, "ErrRules 0 0"},
		{[]string{"a", a("\xff", 61), a("a", 61)}, "ErrRules 1 0"},
		{[]string{"a", a("\xff", 60)}, "ErrSyntax 1 0"},
		{[]string{"a", "b)", "*"}, "ErrSyntax 1 1"},
		{[]string{"a", "[b-a]", "*"}, "ErrRange 1 1"},
	})
}

func TestP3FirstPlace(t *testing.T) {
	check(t, "P3", []single{
		{"a{9}*)", "ErrTimes 0 1"},
		{"a)a{9}", "ErrSyntax 0 1"},
		{"x[a-zb-a$", "ErrRange 0 5"},
		{"[b-ad-c]", "ErrRange 0 1"},
		{"[ab-a[]", "ErrRange 0 2"},
		{"[a[b-a]", "ErrSyntax 0 2"},
		{"(((((((([b-a](a))))))))", "ErrRange 0 9"},
		{"(((((((((a{9})))))))))", "ErrDepth 0 8"},
		{"a{\xff}", "ErrTimes 0 1"},
		{"a\xff{9}", "ErrSyntax 0 1"},
		{"\\u{\xff}", "ErrSyntax 0 0"},
		{"[b-a\xff]", "ErrRange 0 1"},
		{"[^b-a", "ErrRange 0 2"},
		{`[^\u{0}-\u{10ffff}b-a]`, "ErrRange 0 0"},
		{`a[^b-a\u{0}-\u{10ffff}]`, "ErrRange 0 1"},
		{`[^b-a\u{0}-\u{10ffff}`, "ErrRange 0 2"},
		{`[^\u{0}-\u{10ffff}`, "ErrSyntax 0 18"},
		{`[^\u{0}-\u{10ffff}\q]`, "ErrSyntax 0 18"},
		{"(a{8}){9}b{9}", "ErrTimes 0 6"},
		{"(a{8}){8}b(", "ErrSyntax 0 11"},
	})
}

func TestP4(t *testing.T) {
	check(t, "P4", []single{
		{"a(", "ErrSyntax 0 2"}, {"a|(b|c", "ErrSyntax 0 6"}, {"(a", "ErrSyntax 0 2"}, {"a)", "ErrSyntax 0 1"}, {")", "ErrSyntax 0 0"}, {"(a))", "ErrSyntax 0 3"},
		{"", "OK"}, {"|", "OK"}, {"a||b", "OK"}, {"()", "OK"}, {"(|a)*", "OK"}, {"()*()+()?", "OK"}, {"((a)*)*", "OK"},
		{"*a", "ErrSyntax 0 0"}, {"a|*", "ErrSyntax 0 2"}, {"(+)", "ErrSyntax 0 1"}, {"a**", "ErrSyntax 0 2"}, {"a+?", "ErrSyntax 0 2"}, {"a?{2}", "ErrSyntax 0 2"}, {"a{2}{2}", "ErrSyntax 0 4"}, {"a{2}*", "ErrSyntax 0 4"},
		{"{2}", "ErrSyntax 0 0"}, {"a|{9}", "ErrSyntax 0 2"}, {"a*{9}", "ErrSyntax 0 2"}, {"]", "ErrSyntax 0 0"}, {"a}", "ErrSyntax 0 1"}, {"a]", "ErrSyntax 0 1"},
		{"[]", "ErrSyntax 0 1"}, {"[", "ErrSyntax 0 1"}, {"[^", "ErrSyntax 0 2"}, {"[^]", "ErrSyntax 0 2"}, {"[a", "ErrSyntax 0 2"}, {"[a-", "ErrSyntax 0 3"}, {"[a-]", "ErrSyntax 0 3"}, {"[-a]", "ErrSyntax 0 1"}, {"[^-a]", "ErrSyntax 0 2"}, {"[a-b-c]", "ErrSyntax 0 4"}, {"[a--]", "ErrSyntax 0 3"}, {"[[]", "ErrSyntax 0 1"}, {"[a-[]", "ErrSyntax 0 3"}, {"[a]]", "ErrSyntax 0 3"},
		{"[^^]", "OK"}, {"[a^]", "OK"}, {"[!-^]", "OK"}, {"[(-.]", "OK"}, {"[é-€]", "OK"}, {`[\n-\u{61}]`, "OK"}, {`[\--\^]`, "OK"}, {`[\]]`, "OK"},
		{`\q`, "ErrSyntax 0 0"}, {`a\`, "ErrSyntax 0 1"}, {`\é`, "ErrSyntax 0 0"}, {"\\\xff", "ErrSyntax 0 0"}, {`[\q]`, "ErrSyntax 0 1"}, {`[a-\q]`, "ErrSyntax 0 3"}, {`[a\`, "ErrSyntax 0 2"},
		{`\u`, "ErrSyntax 0 0"}, {`\u61`, "ErrSyntax 0 0"}, {`\u{`, "ErrSyntax 0 0"}, {`\u{}`, "ErrSyntax 0 0"}, {`\u{61`, "ErrSyntax 0 0"}, {`\u{6g}`, "ErrSyntax 0 0"}, {`\u{ 61}`, "ErrSyntax 0 0"}, {`\u{-1}`, "ErrSyntax 0 0"}, {`\u{0000061}`, "ErrSyntax 0 0"}, {`\u{110000}`, "ErrSyntax 0 0"}, {`\u{ffffff}`, "ErrSyntax 0 0"}, {`\u{d800}`, "ErrSyntax 0 0"}, {`\u{DFFF}`, "ErrSyntax 0 0"}, {`\U{61}`, "ErrSyntax 0 0"},
		{`\u{0}`, "OK"}, {`\u{000061}`, "OK"}, {`\u{10FfFf}`, "OK"}, {`\u{d7ff}\u{e000}`, "OK"}, {`\u{61}{2}`, "OK"}, {`\u{61}*`, "OK"},
		{"a\xff", "ErrSyntax 0 1"}, {"a\xc3", "ErrSyntax 0 1"}, {"é\x80", "ErrSyntax 0 2"}, {"\xc0\x80", "ErrSyntax 0 0"}, {"\xed\xa0\x80", "ErrSyntax 0 0"}, {"\xf4\x90\x80\x80", "ErrSyntax 0 0"}, {"a\xe2\x82b", "ErrSyntax 0 1"}, {"[a\xff]", "ErrSyntax 0 2"}, {"[a-\xff]", "ErrSyntax 0 3"}, {"\ufffd[\ufffd]", "OK"},
	})
}

// Every scalar that may be special, by itself, in a class, turned, and behind a backslash.
func TestP4EachScalar(t *testing.T) {
	for r := range rune(0x180) {
		s := string(r)
		want := func(wrong bool, at string) string {
			if wrong {
				return "ErrSyntax 0 " + at
			}
			return "OK"
		}
		noChar := strings.Contains("()[]{}|*+?.\\", s)
		noEdge := strings.Contains("[]-\\", s)
		escape := strings.Contains("ntr()[]{}|*+?.\\-^", s)
		list := []single{
			{"[a" + s + "]", want(noEdge, "2")},
			{"[\x00-" + s + "]", want(noEdge, "3")},
			{"[^" + s + "]", want(noEdge, "2")},
			{"a\\" + s, want(!escape, "1")},
			{"[\\" + s + "]", want(!escape, "1")},
		}
		switch s {
		case "(", "[":
			list = append(list, single{s, "ErrSyntax 0 1"})
		case "|", ".":
			list = append(list, single{s, "OK"})
		default:
			list = append(list, single{s, want(noChar, "0")})
		}
		switch s {
		case "]", "-":
			// It ends the class, or begins the second edge: what stands behind it is wrong.
			list[0].want = "ErrSyntax 0 3"
		case "\\":
			// The bracket behind it makes an escape, and the class is left open.
			list[0].want, list[1].want, list[2].want = "ErrSyntax 0 4", "ErrSyntax 0 5", "ErrSyntax 0 4"
		}
		check(t, "P4", list)
	}
}

// completable tells whether the beginning of a rule can go on to a rule.
func completable(t *testing.T, beginning string) bool {
	for _, inner := range []string{"", "\U0010FFFF", "\U0010FFFF]", "]"} {
		for n := range 5 {
			if told(t, beginning+inner+strings.Repeat(")", n)) == "OK" {
				return true
			}
		}
	}
	return false
}

// What stands ahead of the place that is told can go on to a rule; with the scalar there it can't.
func TestP4PlaceCannotStand(t *testing.T) {
	few := texts([]string{"a", "(", ")", "[", "]", "^", "-", "|", "*", ".", "\\"}, 4)
	many := texts([]string{"a", "(", ")", "[", "]", "{", "}", "2", ",", "+", "\\", "n", "é", "\xff", "\xc3"}, 3)
	for _, text := range append(few, many...) {
		got := told(t, text)
		place, wrong := strings.CutPrefix(got, "ErrSyntax 0 ")
		if !wrong {
			continue
		}
		at, err := strconv.Atoi(place)
		if err != nil {
			t.Fatal(err)
		}
		if !completable(t, text[:at]) {
			t.Fatalf("P4: Compile of %q: %s, but it is wrong further ahead", text, got)
		}
		if at == len(text) || text[at] == '\\' {
			continue
		}
		_, size := utf8.DecodeRuneInString(text[at:])
		if completable(t, text[:at+size]) {
			t.Fatalf("P4: Compile of %q: %s, but it can stand there", text, got)
		}
	}
}

func TestP5Depth(t *testing.T) {
	nested := func(n int) string { return strings.Repeat("(", n) + "a" + strings.Repeat(")", n) }
	check(t, "P5", []single{
		{nested(8), "OK"},
		{nested(9), "ErrDepth 0 8"},
		{nested(8) + nested(8), "OK"},
		{nested(8) + nested(9), "ErrDepth 0 25"},
		{"é|" + nested(9), "ErrDepth 0 11"},
		{strings.Repeat("(", 9), "ErrDepth 0 8"},
		{strings.Repeat("(", 8), "ErrSyntax 0 8"},
		{strings.Repeat("(", 8) + "[(]" + `\(` + strings.Repeat(")", 8), "OK"},
		{strings.Repeat("(a)", 9), "OK"},
	})
}

func TestP5Range(t *testing.T) {
	check(t, "P5", []single{
		{"[b-a]", "ErrRange 0 1"}, {"[^b-a]", "ErrRange 0 2"}, {"[a-a]", "OK"}, {"[a-b]", "OK"}, {"é[xb-a]", "ErrRange 0 4"}, {"[a-zé-b]", "ErrRange 0 4"}, {`[a\n-\t]`, "ErrRange 0 2"}, {`[\u{e000}-\u{d7ff}]`, "ErrRange 0 1"}, {`[\u{d7ff}-\u{e000}]`, "OK"},
		{`[^\u{0}-\u{10ffff}]`, "ErrRange 0 0"}, {`é[^\u{0}-\u{10ffff}]`, "ErrRange 0 2"}, {`[^\u{0}-\u{d7ff}\u{e000}-\u{10ffff}]`, "ErrRange 0 0"}, {`[^b-\u{10ffff}\u{0}-a]`, "ErrRange 0 0"}, {`[^c-\u{10ffff}\u{0}-a]`, "OK"}, {`[^\u{0}-\u{d7ff}\u{e001}-\u{10ffff}]`, "OK"}, {`[^\u{0}-\u{10fffe}]`, "OK"}, {`[^\u{1}-\u{10ffff}]`, "OK"}, {`[\u{0}-\u{10ffff}]`, "OK"},
	})
}

func TestP5Times(t *testing.T) {
	check(t, "P5", []single{
		{"a{0}", "OK"}, {"a{8}", "OK"}, {"a{08}", "OK"}, {"a{00}", "OK"}, {"a{9}", "ErrTimes 0 1"}, {"a{09}", "ErrTimes 0 1"}, {"a{10}", "ErrTimes 0 1"}, {"a{99}", "ErrTimes 0 1"}, {"a{008}", "ErrTimes 0 1"}, {"a{000}", "ErrTimes 0 1"},
		{"a{0,}", "OK"}, {"a{8,}", "OK"}, {"a{9,}", "ErrTimes 0 1"}, {"a{008,}", "ErrTimes 0 1"}, {"a{2,", "ErrTimes 0 1"}, {"a{2,,}", "ErrTimes 0 1"},
		{"a{0,0}", "OK"}, {"a{3,3}", "OK"}, {"a{02,08}", "OK"}, {"a{3,2}", "ErrTimes 0 1"}, {"a{2,9}", "ErrTimes 0 1"}, {"a{2,003}", "ErrTimes 0 1"}, {"a{2,3", "ErrTimes 0 1"}, {"a{2,3,}", "ErrTimes 0 1"}, {"a{1,0}", "ErrTimes 0 1"},
		{"a{", "ErrTimes 0 1"}, {"a{}", "ErrTimes 0 1"}, {"a{2", "ErrTimes 0 1"}, {"a{,}", "ErrTimes 0 1"}, {"a{,2}", "ErrTimes 0 1"}, {"a{ 2}", "ErrTimes 0 1"}, {"a{2 }", "ErrTimes 0 1"}, {"a{2, 3}", "ErrTimes 0 1"}, {"a{-1}", "ErrTimes 0 1"}, {"a{+1}", "ErrTimes 0 1"}, {"a{x}", "ErrTimes 0 1"}, {"a{٢}", "ErrTimes 0 1"}, {"a{2)", "ErrTimes 0 1"}, {"é{9}", "ErrTimes 0 2"}, {"[a]{9}", "ErrTimes 0 3"}, {"(a){9}", "ErrTimes 0 3"}, {".{9}", "ErrTimes 0 1"},
		{"(){2}", "ErrTimes 0 2"}, {"(){0}", "ErrTimes 0 2"}, {"(|){2}", "ErrTimes 0 3"}, {"(a{0}){2}", "ErrTimes 0 6"}, {"(a{0,0}|()){1,}", "ErrTimes 0 11"}, {"((a{0})*){2}", "ErrTimes 0 9"}, {"(a*){2}", "OK"}, {"(a{0}b){2}", "OK"}, {"(a{0,}){2}", "OK"},
	})
}

func TestP6Size(t *testing.T) {
	checkAll(t, "P6", []several{
		{[]string{"(a{8}){8}"}, "OK"},
		{[]string{"(a{8}){8}b"}, "ErrSize 0 0"},
		{[]string{"b(a{8}){8}"}, "ErrSize 0 0"},
		{[]string{"(a{0,8}){8}"}, "OK"},
		{[]string{"(a{0,8}){8}."}, "ErrSize 0 0"},
		{[]string{"(a{8,}){8,}"}, "OK"},
		{[]string{"(a{8,}){8,}[bc]"}, "ErrSize 0 0"},
		{[]string{"(b{8}){7}a{0,}ccccccc"}, "OK"},
		{[]string{"(b{8}){7}a{0,}cccccccc"}, "ErrSize 0 0"},
		{[]string{"(b{8}){8}(a{8}){0}"}, "OK"},
		{[]string{"(b{8}){7}(ac)*(d|e)+f?[g-i]{2}."}, "OK"},
		{[]string{"(b{8}){7}(ac)*(d|e)+f?[g-i]{3}."}, "ErrSize 0 0"},
		{[]string{"(b{8}){7}", "c{8}"}, "OK"},
		{[]string{"(b{8}){7}", "c{8}", "", "d"}, "ErrSize 3 0"},
		{[]string{"(b{8}){7}", "ccccccccc", "a{9}"}, "ErrSize 1 0"},
		{[]string{"(b{8}){8}", "", "("}, "ErrSyntax 2 1"},
		{[]string{"((((((((a{8}){8}){8}){8}){8}){8}){8}){8}){8}"}, "ErrSize 0 0"},
	})
}

// Other rules fill up to just as many sets as there may be, and to one more.
func TestP6Sets(t *testing.T) {
	for _, c := range []struct {
		rule string
		sets int
	}{
		{"", 0},
		{"x", 1},
		{"x*", 1},
		{"xyz", 3},
		{"x|y", 2},
		{"[xy]|[yz]", 3},
		{"x{8}", 8},
		{"x{0,8}", 8},
		{"x{8,}", 8},
		{"x{0}y", 1},
		{"x*x{0,2}", 1},
		{"x*x{1,3}", 2},
		{"(x?y?){2,}", 4},
		{"(xx?){3,}", 5},
		{"[^a-w]{2}", 2},
	} {
		most, more := strings.Repeat("u", 8-c.sets), strings.Repeat("u", 9-c.sets)
		checkAll(t, "P6", []several{
			{[]string{"(a|b)*a(a|b){6}", c.rule, "(d|e)*d(d|e){5}", most}, "OK"},
			{[]string{"(a|b)*a(a|b){6}", c.rule, "(d|e)*d(d|e){5}", more}, "ErrStates"},
		})
	}
	checkAll(t, "P6", []several{
		{[]string{"(a|b)*a(a|b){6}"}, "OK"},
		{[]string{"(a|b)*a(a|b){7}"}, "ErrStates"},
		{[]string{"(a|b)*a(a|b){8}"}, "ErrStates"},
		{[]string{"(a|b)*a(a|b){6}", "(a|b)*a(a|b){6}"}, "OK"},
	})
}

func TestExamples(t *testing.T) {
	checkAll(t, "P3 to P6", []several{
		{[]string{"a("}, "ErrSyntax 0 2"},
		{[]string{"a", "[b-a]"}, "ErrRange 1 1"},
		{[]string{"a{3,2}"}, "ErrTimes 0 1"},
		{[]string{"a{9}"}, "ErrTimes 0 1"},
		{[]string{"(){2}"}, "ErrTimes 0 2"},
		{[]string{"a{,2}"}, "ErrTimes 0 1"},
		{[]string{"*a"}, "ErrSyntax 0 0"},
		{[]string{"a**"}, "ErrSyntax 0 2"},
		{[]string{"[a-]"}, "ErrSyntax 0 3"},
		{[]string{"[]"}, "ErrSyntax 0 1"},
		{[]string{`\q`}, "ErrSyntax 0 0"},
		{[]string{"(a{8}){8}"}, "OK"},
		{[]string{"(a{8}){8}b"}, "ErrSize 0 0"},
		{[]string{"(a|b)*a(a|b){8}"}, "ErrStates"},
	})
}

func TestErrorsNeverMixFaults(t *testing.T) {
	for _, rules := range [][]string{nil, {"(a|b)*a(a|b){7}"}} {
		_, err := scangen.Compile(rules)
		var f *api.Fault
		if errors.As(err, &f) {
			t.Errorf("Compile(%q): %v is a Fault", rules, err)
		}
	}
}
