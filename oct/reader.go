package oct

import (
	"mosaic/api"
)

// Reader reads until an error is noted.
type Reader struct {
	left string
	err  api.Errno
}

// From reads from the front of bytes.
func From(s string) *Reader {
	return &Reader{left: s}
}

// Num reads a number.
func (r *Reader) Num(size int) int {
	if !isSize(size) {
		r.note(api.ErrArg)
		return 0
	}
	return Get(r.Raw(size))
}

// Text reads a text.
func (r *Reader) Text() string {
	// Where the length is not there, the error is noted, and Raw answers nothing.
	return r.Raw(r.Num(lengthSize))
}

// Raw reads bytes.
func (r *Reader) Raw(n int) string {
	if n < 0 {
		r.note(api.ErrArg)
	} else if n > r.Left() {
		r.note(api.ErrShort)
	}
	if r.Err() != api.OK {
		return ""
	}
	s := r.left[:n]
	r.left = r.left[n:]
	return s
}

// Rest reads all that is left.
func (r *Reader) Rest() string {
	return r.Raw(r.Left())
}

// Left is how many bytes are left.
func (r *Reader) Left() int {
	if r.Err() != api.OK {
		return 0
	}
	return len(r.left)
}

// Err is the first error.
func (r *Reader) Err() api.Errno {
	if r == nil {
		return api.ErrArg
	}
	return r.err
}

// End is the first error; bytes that are left are one, too.
func (r *Reader) End() api.Errno {
	if r.Err() == api.OK && r.Left() > 0 {
		return api.ErrForm
	}
	return r.Err()
}

// note keeps the first error alone.
func (r *Reader) note(e api.Errno) {
	if r.Err() == api.OK {
		r.err = e
	}
}
