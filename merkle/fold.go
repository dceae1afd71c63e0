package merkle

import (
	"mosaic/api"
	"mosaic/sha"
)

// Depth is how long the path of the i-th of n is.
func Depth(n, i int) int {
	if n < 1 || n > api.MaxLeaves || i < 0 || i >= n {
		return -1
	}
	depth := 0
	for n > 1 {
		if _, is := partner(n, i); is {
			depth++
		}
		n, i = (n+1)/2, i/2
	}
	return depth
}

// Fold is the root to which a digest and its path come.
func Fold(n, i int, digest string, path []string) (string, api.Errno) {
	if e := foldFault(n, i, digest, path); e != api.OK {
		return "", e
	}
	root, _ := climbed(n, i, digest, path)
	return root, api.OK
}

// Check tells whether a digest and its path come to a root.
func Check(root string, n, i int, digest string, path []string) bool {
	got, e := Fold(n, i, digest, path)
	return e == api.OK && got == root
}

// Climb are the knots' texts that are summed on a path.
func Climb(n, i int, digest string, path []string) []string {
	if foldFault(n, i, digest, path) != api.OK {
		return nil
	}
	_, texts := climbed(n, i, digest, path)
	return texts
}

// Road are the texts that are summed on a path, from the leaf's on.
func Road(n, i int, s string, path []string) []string {
	text := leafText(s)
	digest := sha.Sum(text)
	if foldFault(n, i, digest, path) != api.OK {
		return nil
	}
	_, texts := climbed(n, i, digest, path)
	return append([]string{text}, texts...)
}

// foldFault is why a digest can't be folded by a path.
func foldFault(n, i int, digest string, path []string) api.Errno {
	depth := Depth(n, i)
	if depth < 0 || len(digest) != api.DigestBytes {
		return api.ErrArg
	}
	if len(path) != depth {
		return api.ErrForm
	}
	for _, d := range path {
		if len(d) != api.DigestBytes {
			return api.ErrForm
		}
	}
	return api.OK
}

// climbed is what a digest folds to, and the knots' texts on the way. The path has as many digests as Depth says.
func climbed(n, i int, digest string, path []string) (root string, texts []string) {
	for n > 1 {
		if j, is := partner(n, i); is {
			l, r := digest, path[0]
			if j < i {
				l, r = r, l
			}
			text := knotText(l, r)
			texts = append(texts, text)
			digest = sha.Sum(text)
			path = path[1:]
		}
		n, i = (n+1)/2, i/2
	}
	return digest, texts
}
