// Package frame: lines of a stream: see ../../shared/doc/01-frame.md.
package frame

import (
	"strings"

	"pouch/api"
)

const (
	cr = 13
	lf = 10
)

// Check tells whether f is valid.
func Check(f api.Framer) api.Errno {
	return catch(func() { open(f) })
}

// Feed takes the bytes b and answers the framer after them and the lines that end within them.
func Feed(f api.Framer, b []byte) (api.Framer, []api.Line, api.Errno) {
	var r reader
	e := catch(func() {
		r = open(f)
		for _, c := range b {
			r.take(c)
		}
	})
	if e != api.OK {
		return api.Framer{}, nil, e
	}
	return r.framer(), r.lines, api.OK
}

// fault is a type of its own so that wrong input can be told from a mistake of the program.
type fault struct {
	errno api.Errno
}

// catch runs read and answers the error that it panicked with. Any other panic
// goes on: to hide it would pass a mistake of the program off as wrong input.
func catch(read func()) (e api.Errno) {
	defer func() {
		p := recover()
		if p == nil {
			return
		}
		wrong, ok := p.(fault)
		if !ok {
			panic(p)
		}
		e = wrong.errno
	}()
	read()
	return api.OK
}

// reader is a framer at work: its bytes are kept so that they grow in place.
type reader struct {
	rest  []byte
	skip  bool
	lines []api.Line
}

// open panics where f is not valid.
func open(f api.Framer) reader {
	if !valid(f) {
		panic(fault{api.ErrForm})
	}
	return reader{rest: []byte(f.Rest), skip: f.Skip}
}

func valid(f api.Framer) bool {
	if f.Skip {
		return f.Rest == "" || f.Rest == "\r"
	}
	return len(f.Rest) < api.MaxLine && !strings.Contains(f.Rest, "\r\n")
}

func (r *reader) take(c byte) {
	if c == lf && r.endsInCR() {
		r.endLine()
		return
	}
	r.rest = append(r.rest, c)
	if len(r.rest) >= api.MaxLine {
		r.skip = true
	}
	if r.skip {
		r.forget(c)
	}
}

func (r *reader) endsInCR() bool {
	n := len(r.rest)
	return n > 0 && r.rest[n-1] == cr
}

// forget drops the line's bytes, but for a last 13: the next byte may make it a CRLF.
func (r *reader) forget(last byte) {
	r.rest = r.rest[:0]
	if last == cr {
		r.rest = append(r.rest, cr)
	}
}

// endLine is called when rest ends with 13; of a line that is too long, rest holds nothing else.
func (r *reader) endLine() {
	text := string(r.rest[:len(r.rest)-1])
	r.lines = append(r.lines, api.Line{Text: text, Long: r.skip})
	r.rest, r.skip = r.rest[:0], false
}

func (r *reader) framer() api.Framer {
	return api.Framer{Rest: string(r.rest), Skip: r.skip}
}
