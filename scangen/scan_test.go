package scangen_test

import (
	"errors"
	"fmt"
	"math"
	"strings"
	"testing"

	"scangen/api"
	"scangen/plain"
	"scangen/scangen"
)

func compile(t *testing.T, rules ...string) *scangen.Tables {
	t.Helper()
	tables, err := scangen.Compile(rules)
	if err != nil {
		t.Fatalf("Compile(%q): %v", rules, err)
	}
	return tables
}

func scanner(t *testing.T, tables *scangen.Tables, r api.Reader, capacity int) *scangen.Scanner {
	t.Helper()
	s, err := tables.Scan(r, capacity)
	if s == nil || err != nil {
		t.Fatalf("P9: Scan with capacity %d: %v", capacity, err)
	}
	return s
}

// written is a token as it is written here: rule, place, line, column, text.
func written(k api.Token) string {
	return fmt.Sprintf("%d@%d,%d,%d %q; ", k.Rule, k.At, k.Line, k.Column, k.Text)
}

// rest writes all tokens that are left, and the error behind them; it looks at what holds for every scanner (P1, P11).
func rest(t *testing.T, s *scangen.Scanner) string {
	t.Helper()
	out := ""
	for {
		token, err := s.Next()
		if err == nil {
			out += written(token)
			continue
		}
		again, errAgain := s.Next()
		if token != (api.Token{}) || again != token || errAgain != err {
			t.Fatalf("P1, P11: %v, %v, then %v, %v", token, err, again, errAgain)
		}
		return out + err.Error()
	}
}

func scan(t *testing.T, tables *scangen.Tables, capacity int, pieces ...plain.Piece) string {
	t.Helper()
	return rest(t, scanner(t, tables, plain.NewSource(pieces), capacity))
}

// bytewise gives a text in pieces of one byte each.
func bytewise(text string) []plain.Piece {
	var pieces []plain.Piece
	for i := range len(text) {
		pieces = append(pieces, plain.Piece{Text: text[i : i+1], N: i % api.MaxEmpty})
	}
	return pieces
}

func TestP9Capacity(t *testing.T) {
	tables := compile(t, "a")
	for _, capacity := range []int{math.MinInt, -4, 0, 3, 100001, math.MaxInt} {
		source := plain.NewSource(nil)
		s, err := tables.Scan(source, capacity)
		var fault *api.Fault
		if s != nil || !errors.Is(err, api.ErrConfig) || errors.As(err, &fault) || source.Reads != 0 {
			t.Errorf("P9: Scan with capacity %d: a scanner: %v, %v", capacity, s != nil, err)
		}
	}
	for _, capacity := range []int{4, 5, 100000} {
		source := plain.NewSource([]plain.Piece{{Text: "a"}})
		s := scanner(t, tables, source, capacity)
		s.Tokens()
		if source.Reads != 0 {
			t.Errorf("P9: Scan with capacity %d has read", capacity)
		}
	}
}

// wrapped is an error that wraps another one.
type wrapped struct{ inner error }

func (w wrapped) Error() string { return "wrapped " + w.inner.Error() }
func (w wrapped) Unwrap() error { return w.inner }

// once is a reader that gives its text and its error in one Read.
type once struct {
	text  string
	err   error
	count int // of bytes, beyond those of the text
}

func (o once) Read(p []byte) (int, error) { return copy(p, o.text) + o.count, o.err }

type panicking struct{ value any }

func (r panicking) Read(p []byte) (int, error) {
	copy(p, "aaaa")
	panic(r.value)
}

func TestP9Readers(t *testing.T) {
	own := errors.New("own")
	tables := compile(t, "a", " ")
	for _, c := range []struct {
		reader api.Reader
		want   string
		err    error
	}{
		{once{text: "a a", err: api.ErrEnd}, `0@0,1,1 "a"; 1@1,1,2 " "; 0@2,1,3 "a"; `, api.ErrEnd},
		{once{text: "a a", err: wrapped{api.ErrEnd}}, `0@0,1,1 "a"; 1@1,1,2 " "; 0@2,1,3 "a"; `, api.ErrEnd},
		{once{text: "a a", err: own}, `0@0,1,1 "a"; 1@1,1,2 " "; `, own},
		{once{text: "a a", err: wrapped{own}}, `0@0,1,1 "a"; 1@1,1,2 " "; `, wrapped{own}},
		{once{text: "a1", err: api.ErrTooLong}, `0@0,1,1 "a"; -1@1,1,2 "1"; `, api.ErrTooLong},
		{once{text: "a1", err: (*api.Fault)(nil)}, `0@0,1,1 "a"; -1@1,1,2 "1"; `, (*api.Fault)(nil)},
		{once{text: "a1", err: api.OK}, `0@0,1,1 "a"; -1@1,1,2 "1"; `, api.OK},
		{once{err: own}, "", own},
		{once{text: "a ", err: own, count: 9}, "", api.ErrBadRead},
		{once{text: "a ", err: api.ErrEnd, count: 9}, "", api.ErrBadRead},
		{once{text: "a ", count: -3}, "", api.ErrBadRead},
		{once{text: "a ", count: math.MinInt}, "", api.ErrBadRead},
		{once{}, "", api.ErrNoProgress},
		{panicking{"no reader"}, "", api.ErrBadRead},
		{panicking{own}, "", api.ErrBadRead},
		{nil, "", api.ErrBadRead},
	} {
		s := scanner(t, tables, c.reader, 8)
		got := ""
		for token, err := range s.Tokens() {
			if err != nil && err != c.err {
				t.Errorf("P9: %v: another error than %v", c.reader, c.err)
			}
			if err == nil {
				got += written(token)
			}
		}
		if got != c.want {
			t.Errorf("P9: %v: %s, want %s", c.reader, got, c.want)
		}
	}
}

func TestP9Failures(t *testing.T) {
	tables := compile(t, "a+", " ")
	for _, c := range []struct {
		pieces []plain.Piece
		want   string
	}{
		{[]plain.Piece{{Text: "a ", N: 7}, {Text: "a", N: 7}, {Text: " 1"}}, `0@0,1,1 "a"; 1@1,1,2 " "; 0@2,1,3 "a"; 1@3,1,4 " "; -1@4,1,5 "1"; ErrEnd`},
		{[]plain.Piece{{Text: "a", N: 8}, {Text: " 1"}}, "ErrNoProgress"},
		{[]plain.Piece{{N: 8, Text: "1"}}, `-1@0,1,1 "1"; ErrNoProgress`},
		{[]plain.Piece{{N: 8, Kind: 1}}, "ErrNoProgress"},
		{[]plain.Piece{{N: 7, Kind: 1}}, "ErrSource"},
		{[]plain.Piece{{N: 7}}, "ErrEnd"},
		{[]plain.Piece{{Text: "a 1", Kind: 1}, {Text: "a"}}, `0@0,1,1 "a"; 1@1,1,2 " "; -1@2,1,3 "1"; ErrSource`},
		{[]plain.Piece{{Text: "a 1", Kind: 5}}, `0@0,1,1 "a"; 1@1,1,2 " "; -1@2,1,3 "1"; ErrSource`},
		{[]plain.Piece{{Text: "a 1", Kind: 2}}, `0@0,1,1 "a"; 1@1,1,2 " "; -1@2,1,3 "1"; ErrBadRead`},
		{[]plain.Piece{{Text: "a 1", Kind: 3}}, `0@0,1,1 "a"; 1@1,1,2 " "; -1@2,1,3 "1"; ErrBadRead`},
		{[]plain.Piece{{Text: "a 1", Kind: 4}}, `0@0,1,1 "a"; 1@1,1,2 " "; -1@2,1,3 "1"; ErrBadRead`},
	} {
		if got := scan(t, tables, 100, c.pieces...); got != c.want {
			t.Errorf("P9: %v: %s, want %s", c.pieces, got, c.want)
		}
	}
}

func TestP10Order(t *testing.T) {
	tables := compile(t, "[a-z]+", " ", "éé")
	for _, c := range []struct {
		capacity int
		piece    plain.Piece
		want     string
	}{
		{4, plain.Piece{Text: "abc d"}, `0@0,1,1 "abc"; 1@3,1,4 " "; 0@4,1,5 "d"; ErrEnd`},
		{4, plain.Piece{Text: "abcd"}, "ErrTooLong"},
		{4, plain.Piece{Text: "abcd", Kind: 5}, "ErrTooLong"},
		{4, plain.Piece{Text: "abc", Kind: 5}, "ErrSource"},
		{4, plain.Piece{Text: "abc"}, `0@0,1,1 "abc"; ErrEnd`},
		{4, plain.Piece{Text: " abcd"}, `1@0,1,1 " "; ErrTooLong`},
		{4, plain.Piece{Text: "éé"}, "ErrTooLong"},
		{5, plain.Piece{Text: "éé"}, `2@0,1,1 "éé"; ErrEnd`},
		{4, plain.Piece{Text: "é\xc3"}, `-1@0,1,1 "é"; -1@2,1,2 "\xc3"; ErrEnd`},
		{4, plain.Piece{Text: "é\xc3", Kind: 1}, "ErrSource"},
		{4, plain.Piece{Text: "é\xc31", Kind: 1}, `-1@0,1,1 "é"; -1@2,1,2 "\xc3"; -1@3,1,3 "1"; ErrSource`},
		{4, plain.Piece{Text: "\U0001F600", Kind: 1}, "-1@0,1,1 \"\U0001F600\"; ErrSource"},
		{4, plain.Piece{Text: "\xf0\x9f\x98", Kind: 1}, "ErrSource"},
		{4, plain.Piece{Text: "\xf0\x9f\x98"}, `-1@0,1,1 "\xf0"; -1@1,1,2 "\x9f"; -1@2,1,3 "\x98"; ErrEnd`},
		{4, plain.Piece{Text: "\xed\xa0", Kind: 1}, `-1@0,1,1 "\xed"; -1@1,1,2 "\xa0"; ErrSource`},
		{4, plain.Piece{Text: "\xf5", Kind: 1}, `-1@0,1,1 "\xf5"; ErrSource`},
		{4, plain.Piece{Text: "a\xe2\x82", Kind: 1}, `0@0,1,1 "a"; ErrSource`},
		{4, plain.Piece{Kind: 1}, "ErrSource"},
		{4, plain.Piece{}, "ErrEnd"},
	} {
		if got := scan(t, tables, c.capacity, c.piece); got != c.want {
			t.Errorf("P10: capacity %d, %+v: %s, want %s", c.capacity, c.piece, got, c.want)
		}
	}
}

func TestP10LongestAndFirst(t *testing.T) {
	for _, c := range []struct {
		rules      []string
		text, want string
	}{
		{[]string{"a", "ab", "abc*d"}, "abcab", `1@0,1,1 "ab"; -1@2,1,3 "c"; 1@3,1,4 "ab"; ErrEnd`},
		{[]string{"[ab]", "a", "aa|ab", "a{2}"}, "abaab", `2@0,1,1 "ab"; 2@2,1,3 "aa"; 0@4,1,5 "b"; ErrEnd`},
		{[]string{""}, "a", `-1@0,1,1 "a"; ErrEnd`},
		{[]string{"", "a*"}, "aab", `1@0,1,1 "aa"; -1@2,1,3 "b"; ErrEnd`},
		{[]string{"[a-z]+", " "}, "ab é", `0@0,1,1 "ab"; 1@2,1,3 " "; -1@3,1,4 "é"; ErrEnd`},
		{[]string{"[^a]"}, "\ufffd\xff", `0@0,1,1 "` + "\ufffd" + `"; -1@3,1,2 "\xff"; ErrEnd`},
		{[]string{"."}, "\xf4\x8f\xbf\xbf\xf4\x90", `0@0,1,1 "\U0010ffff"; -1@4,1,2 "\xf4"; -1@5,1,3 "\x90"; ErrEnd`},
		{[]string{"\\u{0}"}, "\x00", `0@0,1,1 "\x00"; ErrEnd`},
	} {
		tables := compile(t, c.rules...)
		for _, pieces := range [][]plain.Piece{{{Text: c.text}}, bytewise(c.text)} {
			if got := scan(t, tables, 100, pieces...); got != c.want {
				t.Errorf("P10: %q of %q: %s, want %s", c.rules, c.text, got, c.want)
			}
		}
	}
}

func TestP10LinesAndColumns(t *testing.T) {
	tables := compile(t, "[a-z\\n]+", "é+")
	text := "a\n\nbé\xffé\n\né\r\x85x\xe2\x82\n"
	want := `0@0,1,1 "a\n\nb"; 1@4,3,2 "é"; -1@6,3,3 "\xff"; 1@7,3,4 "é"; 0@9,3,5 "\n\n"; 1@11,5,1 "é"; ` +
		`-1@13,5,2 "\r"; -1@14,5,3 "\x85"; 0@15,5,4 "x"; -1@16,5,5 "\xe2"; -1@17,5,6 "\x82"; 0@18,5,7 "\n"; ErrEnd`
	for _, pieces := range [][]plain.Piece{{{Text: text}}, bytewise(text)} {
		if got := scan(t, tables, 100, pieces...); got != want {
			t.Errorf("P10: %s, want %s", got, want)
		}
	}
}

func TestP10TheLastByteOfCapacity(t *testing.T) {
	tables := compile(t, "x+", "y")
	for _, capacity := range []int{4, 5, 1000, 100000} {
		for _, c := range []struct {
			length int
			behind string
			want   string
		}{
			{capacity - 1, "", "ErrEnd"},
			{capacity - 1, "y", "ErrEnd"},
			{capacity, "", "ErrTooLong"},
			{capacity, "y", "ErrTooLong"},
			{capacity + 1, "", "ErrTooLong"},
		} {
			text := "y" + strings.Repeat("x", c.length) + c.behind
			for _, pieces := range [][]plain.Piece{{{Text: text}}, bytewise(text)} {
				s := scanner(t, tables, plain.NewSource(pieces), capacity)
				tokens, err := plain.All(s, 9)
				whole := len(tokens) > 1 && len(tokens[1].Text) == c.length
				if !errors.Is(err, api.ErrEnd) && !errors.Is(err, api.ErrTooLong) || err.Error() != c.want || whole != (c.want == "ErrEnd") {
					t.Errorf("P10: capacity %d, %d bytes: %d tokens, %v", capacity, c.length, len(tokens), err)
				}
			}
		}
	}
}

func TestP10ReadsNoMoreThanNeeded(t *testing.T) {
	for _, c := range []struct {
		rules []string
		text  string
		reads []int // behind each Next, of one byte each
	}{
		{[]string{"a", "b"}, "aab", []int{2, 3, 4, 4, 4}},
		{[]string{"a", "abcd"}, "abcabcd", []int{4, 4, 4, 8, 8}},
		{[]string{"a"}, "1é€xa", []int{1, 3, 6, 7, 9, 9}},
		{[]string{"é"}, "\xc3\xe2\x82a\xf0\x90\xc0", []int{2, 4, 4, 4, 7, 7, 7, 8}},
		{[]string{"éé"}, "é1", []int{3, 3, 4}},
		{[]string{"a+"}, "aaaaaaaaa", []int{8, 8}},
	} {
		var pieces []plain.Piece
		for i := range len(c.text) {
			pieces = append(pieces, plain.Piece{Text: c.text[i : i+1]})
		}
		source := plain.NewSource(pieces)
		s := scanner(t, compile(t, c.rules...), source, 8)
		for i, want := range c.reads {
			s.Next()
			if source.Reads != want {
				t.Errorf("P10: %q of %q: behind Next %d %d reads, want %d", c.rules, c.text, i, source.Reads, want)
			}
		}
	}
	source := plain.NewSource([]plain.Piece{{Text: "ab ab "}, {Text: "c"}})
	s := scanner(t, compile(t, "[a-z]+", " "), source, 100)
	for i, want := range []int{1, 1, 1, 2, 3} {
		if s.Next(); source.Reads != want {
			t.Errorf("P10: behind Next %d %d reads, want %d", i, source.Reads, want)
		}
	}
}

func TestP11(t *testing.T) {
	for _, c := range []struct {
		pieces []plain.Piece
		want   api.Errno
	}{
		{[]plain.Piece{{Text: "a"}}, api.ErrEnd},
		{[]plain.Piece{{Text: "a "}, {Kind: 1}, {Text: "a"}}, api.ErrSource},
		{[]plain.Piece{{Text: "a ", Kind: 2}, {Text: "a"}}, api.ErrBadRead},
		{[]plain.Piece{{Text: "a ", Kind: 4}, {Text: "a"}}, api.ErrBadRead},
		{[]plain.Piece{{Text: "a ", N: 8}, {Text: "a"}}, api.ErrNoProgress},
		{[]plain.Piece{{Text: "a bbbb a"}}, api.ErrTooLong},
	} {
		source := plain.NewSource(c.pieces)
		s := scanner(t, compile(t, "a", "b+", " "), source, 4)
		plain.All(s, 100)
		reads := source.Reads
		for range 20 {
			if token, err := s.Next(); err != c.want || token != (api.Token{}) {
				t.Errorf("P11: %v: %v, %v, want %v", c.pieces, token, err, c.want)
			}
		}
		if source.Reads != reads {
			t.Errorf("P11: %v: %d reads behind the error", c.pieces, source.Reads-reads)
		}
	}
}

func TestP12(t *testing.T) {
	s := scanner(t, compile(t, "a", "b"), plain.NewSource([]plain.Piece{{Text: "aba1b"}}), 10)
	tokens := s.Tokens()
	got := ""
	for token, err := range tokens {
		if err != nil {
			t.Fatalf("P12: %v", err)
		}
		got += written(token)
		if token.At == 1 {
			break
		}
	}
	token, _ := s.Next()
	got += "Next " + written(token)
	for token, err := range tokens {
		got += written(token)
		if err != nil {
			got += err.Error()
		}
	}
	for token, err := range s.Tokens() {
		got += written(token) + err.Error()
	}
	none := `0@0,0,0 ""; ErrEnd`
	if want := `0@0,1,1 "a"; 1@1,1,2 "b"; Next 0@2,1,3 "a"; -1@3,1,4 "1"; 1@4,1,5 "b"; ` + none + none; got != want {
		t.Errorf("P12: %s, want %s", got, want)
	}
}

func TestP12ToldToStopAtTheError(t *testing.T) {
	s := scanner(t, compile(t, "a"), plain.NewSource(nil), 10)
	for _, goOn := range []bool{false, true} {
		calls := 0
		s.Tokens()(func(token api.Token, err error) bool {
			calls++
			return goOn
		})
		if calls != 1 {
			t.Errorf("P12: the error was told %d times", calls)
		}
	}
}
