// Package oct is layer 2: numbers and texts as bytes. See shared/doc/02-oct.md.
package oct

import (
	"mosaic/api"
)

const (
	maxSize    = 7                     // bytes of a number
	lengthSize = 2                     // the size of a text's length
	maxText    = 1<<(8*lengthSize) - 1 // bytes of a text
)

// Put is a number as bytes.
func Put(n, size int) (string, api.Errno) {
	if !isSize(size) {
		return "", api.ErrArg
	}
	if n < 0 || n>>(8*size) != 0 {
		return "", api.ErrOver
	}
	b := make([]byte, size)
	for i := range size {
		b[size-1-i] = byte(n >> (8 * i))
	}
	return string(b), api.OK
}

// Get is the number that bytes are.
func Get(s string) int {
	n, i := 0, 0
	if len(s) > maxSize {
		return 0
	}
next:
	if i == len(s) {
		return n
	}
	n = n<<8 | int(s[i])
	i++
	goto next
}

func isSize(size int) bool {
	return 1 <= size && size <= maxSize
}
