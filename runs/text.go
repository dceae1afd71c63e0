package runs

import (
	"iter"
	"strconv"
	"strings"

	"mosaic/api"
	"mosaic/bits"
)

const (
	textOfNone = "-"
	toLast     = "-" // between a run's first number and its last
	behindRun  = ","
)

// Text is a set's text.
func Text(n int, s string) (string, api.Errno) {
	if !bits.Check(n, s) {
		return "", api.ErrForm
	}
	var parts []string
	for r := range each(n, s) {
		parts = append(parts, part(r))
	}
	if len(parts) == 0 {
		return textOfNone, api.OK
	}
	return strings.Join(parts, behindRun), api.OK
}

// part is a run's text.
func part(r api.Span) string {
	first, last := r.Lo, r.Hi-1
	if first == last {
		return strconv.Itoa(first)
	}
	return strconv.Itoa(first) + toLast + strconv.Itoa(last)
}

// Read is the set of a text.
func Read(n int, t string) (string, api.Errno) {
	return gather(n, written(t), api.ErrForm)
}

// written yields what a text says, runs or not.
func written(t string) iter.Seq[api.Span] {
	return func(yield func(api.Span) bool) {
		left, more := t, t != textOfNone
		for more {
			var p string
			p, left, more = strings.Cut(left, behindRun)
			if !yield(span(p)) {
				return
			}
		}
	}
}

// span is the run of a text; one of no numbers, if it is the text of none.
func span(p string) api.Span {
	a, b, more := strings.Cut(p, toLast)
	first := number(a)
	if !more {
		return api.Span{Lo: first, Hi: first + 1}
	}
	last := number(b)
	// A run of one number is written in one way alone: without its last number.
	if last == first {
		return api.Span{}
	}
	return api.Span{Lo: first, Hi: last + 1}
}

// number is the number of digits without zeros ahead; -1, where they are no such digits, or the number is in no set.
func number(digits string) int {
	n, err := strconv.Atoi(digits)
	if err != nil || n < 0 || n >= api.MaxAll || strconv.Itoa(n) != digits {
		return -1
	}
	return n
}
