package merkle

import (
	"mosaic/sha"
)

// Witness is two unlike texts of one sum.
func Witness(l []string) (a, b string, is bool) {
	return witness(l, sha.Sum)
}

// witness takes the sum from outside: no two unlike texts of one SHA-256 are known by which it could be tried.
func witness(l []string, sum func(string) string) (a, b string, is bool) {
	first := map[string]int{} // of each sum the place of its first text: if two of its texts are unlike, one is unlike the first
	left, right := len(l), 0
	for i, s := range l {
		digest := sum(s)
		if digest == "" { // a text that is too long has no sum, and none in common
			continue
		}
		at, seen := first[digest]
		if !seen {
			first[digest] = i
		} else if at < left && l[at] != s {
			left, right = at, i
		}
	}
	if left == len(l) {
		return "", "", false
	}
	return l[left], l[right], true
}
