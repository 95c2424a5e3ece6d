package scangen_test

import (
	"strings"
	"testing"

	"scangen/api"
	"scangen/plain"
	"scangen/scangen"
)

// keeper gives a byte a Read, fills the room behind it, and writes into what it was handed earlier.
type keeper struct {
	text string
	old  [][]byte
}

func (k *keeper) Read(p []byte) (int, error) {
	for _, p := range k.old {
		copy(p[:cap(p)], strings.Repeat("z", cap(p)))
	}
	k.old = append(k.old, p)
	if k.text == "" {
		return 0, api.ErrEnd
	}
	copy(p, strings.Repeat("z", len(p)))
	p[0] = k.text[0]
	k.text = k.text[1:]
	return 1, nil
}

func TestP2ReadersKeepWhatTheyAreHanded(t *testing.T) {
	s := scanner(t, compile(t, "[a-z]+", " "), &keeper{text: "abc de fgh"}, 10)
	want := `0@0,1,1 "abc"; 1@3,1,4 " "; 0@4,1,5 "de"; 1@6,1,7 " "; 0@7,1,8 "fgh"; ErrEnd`
	if got := rest(t, s); got != want {
		t.Errorf("P2: %s, want %s", got, want)
	}
}

func TestP2ScannersOfTheSameTables(t *testing.T) {
	tables := compile(t, "a+", "b")
	first := scanner(t, tables, plain.NewSource([]plain.Piece{{Text: "aab1"}}), 10)
	second := scanner(t, tables, plain.NewSource([]plain.Piece{{Text: "baa"}}), 4)
	got := ""
	for range 3 {
		one, _ := first.Next()
		two, _ := second.Next()
		got += written(one) + written(two)
	}
	want := `0@0,1,1 "aa"; 1@0,1,1 "b"; 1@2,1,3 "b"; 0@1,1,2 "aa"; -1@3,1,4 "1"; 0@0,0,0 ""; `
	if got != want {
		t.Errorf("P2: %s, want %s", got, want)
	}
}

// asker is a reader that goes on with the scanner that reads from it, once in every Read, down to a depth.
type asker struct {
	scanner *scangen.Scanner
	text    string
	depth   int
	got     []api.Token
}

func (a *asker) Read(p []byte) (int, error) {
	if a.depth > 0 {
		a.depth--
		if token, err := a.scanner.Next(); err == nil {
			a.got = append(a.got, token)
		}
	}
	n := copy(p, a.text)
	a.text = a.text[n:]
	if n == 0 {
		return 0, api.ErrEnd
	}
	return min(n, 3), nil
}

func TestP1ReadersThatAskTheirScanner(t *testing.T) {
	tables := compile(t, "a", "a*b", "é+")
	for depth := range 6 {
		for _, text := range []string{"", "a", "aaab", "ééé", "aac", "\xc3", "aaaaaaaaaaaaaaa", "ab€aé\xe2\x82"} {
			for capacity := 4; capacity < 9; capacity++ {
				a := &asker{text: text, depth: depth}
				a.scanner = scanner(t, tables, a, capacity)
				rest(t, a.scanner)
			}
		}
	}
}

// endless gives the same byte for ever.
type endless struct{ b byte }

func (e endless) Read(p []byte) (int, error) {
	for i := range p {
		p[i] = e.b
	}
	return len(p), nil
}

func TestP1NextEndsWithAnEndlessReader(t *testing.T) {
	s := scanner(t, compile(t, "a+"), endless{'a'}, 100000)
	if _, err := s.Next(); err != api.ErrTooLong {
		t.Errorf("P1, P10: %v", err)
	}
	s = scanner(t, compile(t, "a+"), endless{'b'}, 4)
	for i := range 1000 {
		if token, err := s.Next(); err != nil || token != (api.Token{Rule: -1, At: i, Line: 1, Column: i + 1, Text: "b"}) {
			t.Fatalf("P1, P10: %v, %v", token, err)
		}
	}
}
