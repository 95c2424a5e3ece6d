package source

import (
	"errors"
	"testing"

	"scangen/api"
)

// call is what a reader does in one Read: it lays the text into p, and answers.
type call struct {
	lays   string
	n      int
	err    error
	panics any
}

// script is a reader that does one call after the other, and then fails.
type script struct {
	calls []call
	reads int
	kept  []byte // the p of the last Read
}

var errOwn = errors.New("own")

func (s *script) Read(p []byte) (int, error) {
	s.reads++
	s.kept = p
	if s.reads > len(s.calls) {
		return 0, errOwn
	}
	c := s.calls[s.reads-1]
	copy(p, c.lays)
	if c.panics != nil {
		panic(c.panics)
	}
	return c.n, c.err
}

type wrapper struct{ inner error }

func (w wrapper) Error() string { return "wrapped" }
func (w wrapper) Unwrap() error { return w.inner }

// wild cannot be compared, and panics when it is asked.
type wild struct{ list []int }

func (wild) Error() string { panic("Error") }
func (wild) Unwrap() error { panic("Unwrap") }

func same(a, b error) (equal bool) {
	_, wildA := a.(wild)
	_, wildB := b.(wild)
	if wildA || wildB {
		return wildA && wildB
	}
	return a == b
}

func TestP9Read(t *testing.T) {
	typedNil := (*api.Fault)(nil)
	wrapped := wrapper{errOwn}
	for i, c := range []struct {
		call call
		want string
		err  error
	}{
		{call{lays: "ab", n: 2}, "ab", nil},
		{call{lays: "abcd", n: 4}, "abcd", nil},
		{call{lays: "abcd", n: 1}, "a", nil},
		{call{lays: "ab", n: 2, err: errOwn}, "ab", errOwn},
		{call{n: 0, err: wrapped}, "", wrapped},
		{call{lays: "ab", n: 2, err: api.ErrEnd}, "ab", api.ErrEnd},
		{call{n: 0, err: wrapper{wrapper{api.ErrEnd}}}, "", api.ErrEnd},
		{call{lays: "a", n: 1, err: errors.Join(errOwn, api.ErrEnd)}, "a", api.ErrEnd},
		{call{lays: "a", n: 1, err: api.OK}, "a", api.OK},
		{call{lays: "a", n: 1, err: typedNil}, "a", typedNil},
		{call{lays: "a", n: 1, err: wild{}}, "a", wild{}},
		{call{lays: "ab", n: -1}, "", api.ErrBadRead},
		{call{lays: "ab", n: 5}, "", api.ErrBadRead},
		{call{lays: "ab", n: -1, err: api.ErrEnd}, "", api.ErrBadRead},
		{call{lays: "ab", n: 5, err: errOwn}, "", api.ErrBadRead},
		{call{lays: "ab", panics: "no reader"}, "", api.ErrBadRead},
		{call{lays: "ab", panics: errOwn}, "", api.ErrBadRead},
	} {
		r := &script{calls: []call{c.call}}
		s := Of(r)
		got, err := s.Read(4)
		if string(got) != c.want || !same(err, c.err) || r.reads != 1 {
			t.Errorf("P9: case %d: %q, an error as wanted: %v, %d reads", i, got, same(err, c.err), r.reads)
		}
	}
}

func TestP9NoReader(t *testing.T) {
	var none *script
	for _, r := range []api.Reader{nil, none} {
		s := Of(r)
		if got, err := s.Read(4); len(got) != 0 || err != api.ErrBadRead {
			t.Errorf("P9: %q, %v of no reader", got, err)
		}
	}
}

func TestP9NothingEightTimes(t *testing.T) {
	nothing := make([]call, 8)
	for _, c := range []struct {
		calls []call
		want  string
		err   error
		reads int
	}{
		{nothing, "", api.ErrNoProgress, 8},
		{nothing[:7], "", errOwn, 8},
		{append(nothing[:7:7], call{lays: "a", n: 1}), "a", nil, 8},
		{append(nothing[:7:7], call{err: api.ErrEnd}), "", api.ErrEnd, 8},
	} {
		r := &script{calls: c.calls}
		s := Of(r)
		if got, err := s.Read(4); string(got) != c.want || err != c.err || r.reads != c.reads {
			t.Errorf("P9: %q, %v in %d reads, want %q, %v in %d", got, err, r.reads, c.want, c.err, c.reads)
		}
	}
}

func TestP9WhatIsHandedOut(t *testing.T) {
	r := &script{calls: make([]call, 100)}
	s := Of(r)
	for _, most := range []int{4, 1, 9, 3} {
		s.Read(most)
		if len(r.kept) != most || cap(r.kept) != most {
			t.Errorf("P9: the reader has room for %d, %d, want %d", len(r.kept), cap(r.kept), most)
		}
	}
}
