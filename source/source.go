// Package source reads from a reader of the caller's, whatever that one does.
package source

import (
	"errors"

	"scangen/api"
)

// Source is a reader that is not trusted.
type Source struct {
	reader api.Reader
	space  []byte // the reader may write into it later, so that nothing is held in it
}

// Of gives a source that has read nothing.
func Of(r api.Reader) Source { return Source{reader: r} }

// Read gives bytes, at most so many, which hold until the next Read. An error says that there are no more behind them: api.ErrEnd itself, or that with which the reader failed.
func (s *Source) Read(most int) ([]byte, error) {
	if len(s.space) < most {
		s.space = make([]byte, most)
	}
	p := s.space[:most:most]
	for range api.MaxEmpty {
		n, err := s.ask(p)
		if isEnd(err) {
			err = api.ErrEnd
		}
		if n > 0 || err != nil {
			return p[:n], err
		}
	}
	return nil, api.ErrNoProgress
}

// ask reads once: api.ErrBadRead, if the reader panics or its count cannot be.
func (s *Source) ask(p []byte) (n int, err error) {
	defer func() {
		if recover() != nil {
			n, err = 0, api.ErrBadRead
		}
	}()
	n, err = s.reader.Read(p)
	if n < 0 || n > len(p) {
		return 0, api.ErrBadRead
	}
	return n, err
}

// isEnd asks an error of the reader's, which may panic when it is unwrapped: it is no end then, but a failure like others.
func isEnd(err error) (end bool) {
	defer func() {
		if recover() != nil {
			end = false
		}
	}()
	return errors.Is(err, api.ErrEnd)
}
