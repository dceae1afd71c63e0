package merkle

import (
	"math"
	"slices"
	"strconv"
	"strings"
	"testing"

	"mosaic/api"
)

// digests are n of them, that belong to no list.
func digests(n int) []string {
	l := make([]string, n)
	for i := range n {
		l[i] = librarySum("digest " + strconv.Itoa(i))
	}
	return l
}

// 3.2 and 3.3: what any digest folds to by any path, and the texts on the way.
func TestFoldClimbAndRoad(t *testing.T) {
	for _, n := range counts() {
		for _, i := range some(n) {
			path, digest, leaf := digests(depthByDocument(n, i)), librarySum("d"), "some leaf"
			texts, want := climbByDocument(n, i, digest, path)
			if got, e := Fold(n, i, digest, path); e != api.OK || got != want {
				t.Errorf("Fold(%d, %d): %x, %v, want %x", n, i, got, e, want)
			}
			if !Check(want, n, i, digest, path) || Check(digest, n, i, digest, path) != (n == 1) || Check("", n, i, digest, path) {
				t.Errorf("Check(%d, %d)", n, i)
			}
			if got := Climb(n, i, digest, path); !slices.Equal(got, texts) {
				t.Errorf("Climb(%d, %d): %q, want %q", n, i, got, texts)
			}
			texts, _ = climbByDocument(n, i, librarySum("\x00"+leaf), path)
			if got := Road(n, i, leaf, path); !slices.Equal(got, append([]string{"\x00" + leaf}, texts...)) {
				t.Errorf("Road(%d, %d): %q", n, i, got)
			}
		}
	}
}

// 3.2: a single leaf's digest folds to itself.
func TestFoldOfOne(t *testing.T) {
	d := librarySum("d")
	for _, path := range [][]string{nil, {}} {
		if got, e := Fold(1, 0, d, path); e != api.OK || got != d || !Check(d, 1, 0, d, path) || len(Climb(1, 0, d, path)) != 0 {
			t.Errorf("Fold: %x, %v", got, e)
		}
		if got := Road(1, 0, "leaf", path); !slices.Equal(got, []string{"\x00leaf"}) {
			t.Errorf("Road: %q", got)
		}
	}
}

// wrongFolds are what can't be folded, and the error of each.
func wrongFolds() map[string]struct {
	n, i   int
	digest string
	path   []string
	want   api.Errno
} {
	type wrong = struct {
		n, i   int
		digest string
		path   []string
		want   api.Errno
	}
	d, three := librarySum("d"), digests(3)
	with := func(at int, s string) []string {
		l := digests(3)
		l[at] = s
		return l
	}
	return map[string]wrong{
		"n is 0":                   {0, 0, d, nil, api.ErrArg},
		"n is below 0":             {-5, 0, d, three, api.ErrArg},
		"n is 257":                 {257, 0, d, digests(9), api.ErrArg},
		"n is the least":           {math.MinInt, 0, d, three, api.ErrArg},
		"n is the greatest":        {math.MaxInt, 0, d, three, api.ErrArg},
		"i is n":                   {5, 5, d, three, api.ErrArg},
		"i is below 0":             {5, -1, d, three, api.ErrArg},
		"i is the least":           {5, math.MinInt, d, three, api.ErrArg},
		"i is the greatest":        {5, math.MaxInt, d, three, api.ErrArg},
		"no digest":                {5, 0, "", three, api.ErrArg},
		"a short digest":           {5, 0, d[:31], three, api.ErrArg},
		"a long digest":            {5, 0, d + "x", three, api.ErrArg},
		"a short digest and path":  {5, 0, d[:31], nil, api.ErrArg},
		"a wrong n, and path":      {0, 0, d, []string{"x"}, api.ErrArg},
		"no path":                  {5, 0, d, nil, api.ErrForm},
		"a short path":             {5, 0, d, digests(2), api.ErrForm},
		"a long path":              {5, 0, d, digests(4), api.ErrForm},
		"a path of another place":  {5, 4, d, three, api.ErrForm},
		"a path of one leaf":       {1, 0, d, digests(1), api.ErrForm},
		"a very long path":         {5, 0, d, digests(1000), api.ErrForm},
		"a short one ahead":        {5, 0, d, with(0, d[:31]), api.ErrForm},
		"a long one within":        {5, 0, d, with(1, d+"x"), api.ErrForm},
		"an empty one at the end":  {5, 0, d, with(2, ""), api.ErrForm},
		"two that make up for one": {5, 0, d, []string{d[:16], d + d[:16], d}, api.ErrForm},
	}
}

// 3.2 and 3.3: what can't be folded has an error, is no proof, and has no texts.
func TestFoldErrors(t *testing.T) {
	for name, x := range wrongFolds() {
		if got, e := Fold(x.n, x.i, x.digest, x.path); got != "" || e != x.want {
			t.Errorf("Fold, %s: %x, %v, want %v", name, got, e, x.want)
		}
		for _, root := range []string{"", x.digest, librarySum("d")} {
			if Check(root, x.n, x.i, x.digest, x.path) {
				t.Errorf("Check, %s", name)
			}
		}
		if got := Climb(x.n, x.i, x.digest, x.path); len(got) != 0 {
			t.Errorf("Climb, %s: %q", name, got)
		}
		if len(x.digest) != api.DigestBytes {
			continue // a road's digest is a leaf's
		}
		if got := Road(x.n, x.i, "leaf", x.path); len(got) != 0 {
			t.Errorf("Road, %s: %q", name, got)
		}
	}
}

// 3.3: a road asks for no bound of its leaf but that its text can be summed.
func TestRoadOfLongLeaves(t *testing.T) {
	path := digests(1)
	for _, n := range []int{0, api.MaxLeaf, api.MaxLeaf + 1, api.MaxData - 1} {
		s := strings.Repeat("s", n)
		if got := Road(2, 1, s, path); !slices.Equal(got, []string{"\x00" + s, "\x01" + path[0] + librarySum("\x00"+s)}) {
			t.Errorf("Road of %d bytes: %d texts", n, len(got))
		}
	}
	if got := Road(2, 1, strings.Repeat("s", api.MaxData), path); len(got) != 0 {
		t.Errorf("Road of a leaf that has no digest: %d texts", len(got))
	}
}

// 3.5: the path of a leaf folds to the root, and its road is of the texts of the list.
func TestPathFoldsToRoot(t *testing.T) {
	for _, n := range counts() {
		l := list(n)
		root, _ := Root(l)
		texts := Texts(l)
		for _, i := range some(n) {
			path, _ := Path(l, i)
			if got, e := Fold(n, i, Leaf(l[i]), path); e != api.OK || got != root || !Check(root, n, i, Leaf(l[i]), path) {
				t.Errorf("%d of %d: %x, %v", i, n, got, e)
			}
			if len(path) != Depth(n, i) {
				t.Errorf("%d of %d: %d digests, Depth is %d", i, n, len(path), Depth(n, i))
			}
			for _, s := range Road(n, i, l[i], path) {
				if !slices.Contains(texts, s) {
					t.Errorf("%d of %d: a text of the road is none of the list", i, n)
				}
			}
		}
	}
}

// otherLeaves are leaves that are unlike s, but nearly s, or made of the list's parts.
func otherLeaves(s string, path []string) []string {
	l := []string{s + "\x00", "\x00" + s, s + "x", "another", strings.Repeat("y", api.MaxLeaf)}
	if s != "" {
		l = append(l, "", s[1:], s[:len(s)-1], string(s[0]^1)+s[1:])
	}
	for _, d := range path {
		l = append(l, d, Leaf(s)+d, d+Leaf(s))
	}
	return l
}

// otherPaths are the path, and such as are nearly it.
func otherPaths(path []string) [][]string {
	l := [][]string{path}
	for j := range path {
		p := slices.Clone(path)
		p[j] = p[j][:31] + string([]byte{p[j][31] ^ 1})
		q := slices.Clone(path)
		q[0], q[j] = q[j], q[0]
		l = append(l, p, q)
	}
	return l
}

// 3.5: another leaf, or digest, that folds to the root gives a witness (and as none is known, none folds to it).
func TestOthersGiveAWitness(t *testing.T) {
	for _, n := range []int{1, 2, 3, 4, 5, 6, 7, 8, 9, 13, 16, 17} {
		l := list(n)
		root, _ := Root(l)
		texts := Texts(l)
		for i := range n {
			path, _ := Path(l, i)
			for _, s := range otherLeaves(l[i], path) {
				for _, p := range otherPaths(path) {
					if !Check(root, n, i, Leaf(s), p) {
						continue
					}
					if _, _, is := Witness(slices.Concat(texts, Road(n, i, s, p))); !is {
						t.Errorf("%q is the leaf %d of %d, too", s, i, n)
					}
				}
			}
			for _, d := range slices.Concat(path, digests(2), []string{Leaf(l[(i+1)%n]), root}) {
				if d == Leaf(l[i]) || !Check(root, n, i, d, path) {
					continue
				}
				if _, _, is := Witness(slices.Concat(texts, Climb(n, i, d, path))); !is {
					t.Errorf("%x is the digest %d of %d, too", d, i, n)
				}
			}
		}
	}
}

// 3.5: a path proves nothing of another place.
func TestPathOfAnotherPlace(t *testing.T) {
	l := list(8)
	root, _ := Root(l)
	for i := range 8 {
		path, _ := Path(l, i)
		for j := range 8 {
			if Check(root, 8, j, Leaf(l[i]), path) != (i == j) {
				t.Errorf("the path of %d, as %d", i, j)
			}
		}
	}
}
