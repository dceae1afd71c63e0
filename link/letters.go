package link

import (
	"strings"

	"mosaic/api"
)

const (
	letters    = "abcdefghijklmnopqrstuvwxyz234567"
	letterBits = 5
	byteBits   = 8
)

const (
	escape     = '%'
	escapeLong = 3 // bytes of what stands for a byte that is escaped
	hexDigits  = "0123456789ABCDEF"
)

// Base32 is bytes in base 32.
func Base32(s string) string {
	groups, last, count := regroup([]byte(s), byteBits, letterBits)
	if count > 0 {
		groups = append(groups, last<<(letterBits-count))
	}
	for i, group := range groups {
		groups[i] = letters[group]
	}
	return string(groups)
}

// Unbase32 is the bytes of base 32.
func Unbase32(t string) (string, api.Errno) {
	groups := make([]byte, len(t))
	for i := range groups {
		group := strings.IndexByte(letters, t[i])
		if group < 0 {
			return "", api.ErrForm
		}
		groups[i] = byte(group)
	}
	bytes, last, count := regroup(groups, letterBits, byteBits)
	// Behind the last byte stand fewer bits than a letter has, all of them 0: else a letter is too many, or there is another way to write it.
	if count >= letterBits || last != 0 {
		return "", api.ErrForm
	}
	return string(bytes), api.OK
}

// regroup gathers the bits of groups of one count into groups of another one, the highest bits first; and those that are left, too few for one more, and how many these are. No group has more than 8 bits.
func regroup(groups []byte, from, to int) (out []byte, last byte, count int) {
	held, i := 0, 0
next:
	if count >= to {
		count -= to
		out = append(out, byte(held>>count))
		held &= 1<<count - 1
		goto next
	}
	if i < len(groups) {
		held = held<<from | int(groups[i])
		count += from
		i++
		goto next
	}
	return out, byte(held), count
}

// Escape is bytes escaped.
func Escape(s string) string {
	var out []byte
	for i := range len(s) {
		if isPlain(s[i]) {
			out = append(out, s[i])
		} else {
			out = append(out, escape, hexDigits[s[i]>>4], hexDigits[s[i]&15])
		}
	}
	return string(out)
}

// isPlain tells whether a byte stands for itself.
func isPlain(c byte) bool {
	switch c {
	case '-', '.', '_', '~':
		return true
	}
	return 'a' <= c && c <= 'z' || 'A' <= c && c <= 'Z' || '0' <= c && c <= '9'
}

// Unescape is the bytes of what is escaped.
func Unescape(t string) (string, api.Errno) {
	var out []byte
	for i := 0; i < len(t); {
		if isPlain(t[i]) {
			out = append(out, t[i])
			i++
			continue
		}
		c, is := escaped(t[i:])
		if !is {
			return "", api.ErrForm
		}
		out = append(out, c)
		i += escapeLong
	}
	return string(out), api.OK
}

// escaped is the byte that stands escaped at the front of a text; false, if none does, or one that stands for itself.
func escaped(t string) (byte, bool) {
	if len(t) < escapeLong || t[0] != escape {
		return 0, false
	}
	high, low := strings.IndexByte(hexDigits, t[1]), strings.IndexByte(hexDigits, t[2])
	if high < 0 || low < 0 {
		return 0, false
	}
	c := byte(high<<4 | low)
	return c, !isPlain(c)
}
