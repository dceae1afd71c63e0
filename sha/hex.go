package sha

import (
	"mosaic/api"
)

const digits = "0123456789abcdef"

// Hex is bytes in digits.
func Hex(s string) string {
	out := make([]byte, 0, 2*len(s))
	for i := range len(s) {
		out = append(out, digits[s[i]>>4], digits[s[i]&15])
	}
	return string(out)
}

// Unhex is the bytes of digits.
func Unhex(s string) (string, api.Errno) {
	if len(s)%2 != 0 {
		return "", api.ErrForm
	}
	out := make([]byte, 0, len(s)/2)
	for i := 0; i < len(s); i += 2 {
		high, isHigh := value(s[i])
		low, isLow := value(s[i+1])
		if !isHigh || !isLow {
			return "", api.ErrForm
		}
		out = append(out, high<<4|low)
	}
	return string(out), api.OK
}

// value is what a digit stands for; great letters are no digits, so that bytes are written in one way alone.
func value(c byte) (byte, bool) {
	switch {
	case '0' <= c && c <= '9':
		return c - '0', true
	case 'a' <= c && c <= 'f':
		return c - 'a' + 10, true
	}
	return 0, false
}
