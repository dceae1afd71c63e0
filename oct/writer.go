package oct

import (
	"mosaic/api"
)

// Writer writes until an error is noted.
type Writer struct {
	text []byte
	err  api.Errno
}

// To writes behind nothing.
func To() *Writer {
	return &Writer{}
}

// Num writes a number.
func (w *Writer) Num(n, size int) {
	s, e := Put(n, size)
	if e != api.OK {
		w.note(e)
		return
	}
	w.Raw(s)
}

// Text writes a text.
func (w *Writer) Text(s string) {
	if len(s) > maxText {
		w.note(api.ErrLong)
		return
	}
	w.Num(len(s), lengthSize)
	w.Raw(s)
}

// Raw writes bytes as they are.
func (w *Writer) Raw(s string) {
	if w == nil || w.err != api.OK {
		return
	}
	if len(s) > api.MaxData-len(w.text) {
		w.note(api.ErrLong)
		return
	}
	w.text = append(w.text, s...)
}

// Bytes is what was written.
func (w *Writer) Bytes() (string, api.Errno) {
	if w == nil {
		return "", api.ErrArg
	}
	if w.err != api.OK {
		return "", w.err
	}
	return string(w.text), api.OK
}

// note keeps the first error alone.
func (w *Writer) note(e api.Errno) {
	if w != nil && w.err == api.OK {
		w.err = e
	}
}
