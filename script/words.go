package script

import (
	"slices"
	"strconv"
	"strings"

	"mosaic/api"
	"mosaic/sha"
)

const (
	noBytes   = "-" // the word for no bytes
	minus     = "-" // ahead of a number below 0
	maxDigits = 18
)

// A slot is where the thing stands that a word says: just one of these is there.
type slot struct {
	number *int
	role   *int
	bytes  *string
}

// numbers are slots of numbers.
func numbers(at ...*int) []slot {
	var slots []slot
	for _, n := range at {
		slots = append(slots, slot{number: n})
	}
	return slots
}

// setupSlots are the slots of what a line of a part says of a setup; a line node says it of the node at i.
func setupSlots(s *api.Setup, part, i int) []slot {
	switch part {
	case partFile:
		return []slot{{bytes: &s.File}}
	case partCut:
		return numbers(&s.Size, &s.Seed, &s.Code.Eps.N, &s.Code.Eps.D, &s.Code.Q, &s.Code.F)
	case partNode:
		return append([]slot{{role: &s.Roles[i]}}, numbers(&s.Places[i].X, &s.Places[i].Y)...)
	}
	c := &s.Config
	return numbers(&c.Room, &c.Timeout, &c.Slots, &c.Quota, &c.Out)
}

// deedSlots are the slots of what a line says of a deed of its kind.
func deedSlots(d *api.Deed) []slot {
	switch d.Kind {
	case api.DeedTick:
		return numbers(&d.Node, &d.I)
	case api.DeedGreet:
		return numbers(&d.Node, &d.To)
	case api.DeedLie:
		return append(numbers(&d.Node, &d.To), slot{bytes: &d.Text})
	case api.DeedCalm:
		return nil
	}
	return numbers(&d.I)
}

// read takes what a word says; it tells whether that is what may stand here.
func (x slot) read(word string) (is bool) {
	switch {
	case x.bytes != nil:
		*x.bytes, is = readBytes(word)
	case x.role != nil:
		*x.role = slices.Index(roleWords(), word)
		is = *x.role >= 0
	default:
		*x.number, is = readNumber(word)
	}
	return is
}

// write is the word for what stands here.
func (x slot) write() string {
	switch {
	case x.bytes != nil:
		return writeBytes(*x.bytes)
	case x.role != nil:
		return wordAt(roleWords(), *x.role)
	}
	return strconv.Itoa(*x.number)
}

// roleWords are the words for the roles, by their numbers.
func roleWords() []string {
	return []string{api.RoleOwns: "owns", api.RoleFetches: "fetches", api.RoleSeeks: "seeks", api.RoleLies: "lies"}
}

// wordAt is a word of a list, or an empty one, if there is none.
func wordAt(words []string, i int) string {
	if i < 0 || i >= len(words) {
		return ""
	}
	return words[i]
}

// readNumber is what a word says, if it is a number, written in the one way that there is.
func readNumber(word string) (int, bool) {
	if len(strings.TrimPrefix(word, minus)) > maxDigits {
		return 0, false
	}
	n, err := strconv.Atoi(word)
	return n, err == nil && strconv.Itoa(n) == word
}

// readBytes is what a word says, if it is bytes.
func readBytes(word string) (string, bool) {
	if word == noBytes {
		return "", true
	}
	s, e := sha.Unhex(word)
	return s, e == api.OK && s != ""
}

// writeBytes is the word for bytes.
func writeBytes(s string) string {
	if s == "" {
		return noBytes
	}
	return sha.Hex(s)
}
