package merkle

import (
	"crypto/sha256"
	"math"
	"slices"
	"strconv"
	"strings"
	"testing"

	"mosaic/api"
)

// librarySum is a second SHA-256, that has nothing in common with package sha.
func librarySum(s string) string {
	d := sha256.Sum256([]byte(s))
	return string(d[:])
}

// split is the greatest power of 2 below n, which is above 1.
func split(n int) int {
	k := 1
	for 2*k < n {
		k *= 2
	}
	return k
}

// The four that follow say what the chapter says, in its own way: by two parts of a list, not by levels.

func rootByDocument(l []string) string {
	if len(l) == 1 {
		return librarySum("\x00" + l[0])
	}
	k := split(len(l))
	return librarySum("\x01" + rootByDocument(l[:k]) + rootByDocument(l[k:]))
}

func pathByDocument(l []string, i int) []string {
	if len(l) == 1 {
		return nil
	}
	k := split(len(l))
	if i < k {
		return append(pathByDocument(l[:k], i), rootByDocument(l[k:]))
	}
	return append(pathByDocument(l[k:], i-k), rootByDocument(l[:k]))
}

func textsByDocument(l []string) []string {
	if len(l) == 1 {
		return []string{"\x00" + l[0]}
	}
	k := split(len(l))
	knot := "\x01" + rootByDocument(l[:k]) + rootByDocument(l[k:])
	return slices.Concat(textsByDocument(l[:k]), textsByDocument(l[k:]), []string{knot})
}

// climbByDocument are the texts from below upwards, and what the digest folds to.
func climbByDocument(n, i int, digest string, path []string) ([]string, string) {
	if n == 1 {
		return nil, digest
	}
	k, last := split(n), len(path)-1
	texts, text := []string(nil), ""
	if i < k {
		t, d := climbByDocument(k, i, digest, path[:last])
		texts, text = t, "\x01"+d+path[last]
	} else {
		t, d := climbByDocument(n-k, i-k, digest, path[:last])
		texts, text = t, "\x01"+path[last]+d
	}
	return append(texts, text), librarySum(text)
}

// list is n leaves that are unlike, of several lengths.
func list(n int) []string {
	l := make([]string, n)
	for i := range n {
		l[i] = strings.Repeat("leaf ", i%7) + strconv.Itoa(i)
	}
	return l
}

// counts are lists' lengths at which the tree changes its form, and some between.
func counts() []int {
	l := []int{63, 64, 65, 96, 100, 127, 128, 129, 160, 200, 254, 255, api.MaxLeaves}
	for n := 1; n <= 34; n++ {
		l = append(l, n)
	}
	return l
}

// some are places in a list of n: all of a short one, the edges of a long one.
func some(n int) []int {
	var l []int
	for i := range n {
		if n <= 34 || i < 3 || i >= n-3 || i == n/2 || i == split(n)-1 || i == split(n) {
			l = append(l, i)
		}
	}
	return l
}

// wrongLists are lists that may not be, and the error of each.
func wrongLists() map[string]struct {
	l    []string
	want api.Errno
} {
	type wrong = struct {
		l    []string
		want api.Errno
	}
	long := strings.Repeat("x", api.MaxLeaf+1)
	return map[string]wrong{
		"nil":                {nil, api.ErrArg},
		"none":               {[]string{}, api.ErrArg},
		"257":                {make([]string, api.MaxLeaves+1), api.ErrLong},
		"10000":              {make([]string, 10000), api.ErrLong},
		"one long":           {[]string{long}, api.ErrLong},
		"the first is long":  {append([]string{long}, list(4)...), api.ErrLong},
		"one within is long": {slices.Insert(list(4), 2, long), api.ErrLong},
		"the last is long":   {append(list(255), long), api.ErrLong},
		"too many, and long": {append(list(256), long), api.ErrLong},
		"a very long one":    {[]string{"a", strings.Repeat("x", 1<<20)}, api.ErrLong},
	}
}

// 3.1: the digests of leaves and knots, of whatever they are.
func TestLeafAndKnot(t *testing.T) {
	for _, s := range []string{"", "a", "abc", "\x00", "\x01", strings.Repeat("b", 63), strings.Repeat("c", api.MaxLeaf), strings.Repeat("d", api.MaxLeaf+1), strings.Repeat("e", api.MaxData-1)} {
		if got, want := Leaf(s), librarySum("\x00"+s); got != want {
			t.Errorf("Leaf of %d bytes: %x, want %x", len(s), got, want)
		}
	}
	if got := Leaf(strings.Repeat("e", api.MaxData)); got != "" {
		t.Errorf("Leaf, of a text that can't be summed: %x", got)
	}
	l, r := Leaf("l"), Leaf("r")
	if got, want := Knot(l, r), librarySum("\x01"+l+r); got != want || Knot(r, l) == want {
		t.Errorf("Knot: %x, want %x", got, want)
	}
	if Leaf(l+r) == Knot(l, r) {
		t.Errorf("a leaf passes for a knot")
	}
	if Knot("", "") != librarySum("\x01") {
		t.Errorf("Knot of nothing")
	}
}

// 3.1: the chapter's example.
func TestExample(t *testing.T) {
	l := []string{"a", "b", "c"}
	ab := Knot(Leaf("a"), Leaf("b"))
	if root, e := Root(l); e != api.OK || root != Knot(ab, Leaf("c")) {
		t.Errorf("Root: %x, %v", root, e)
	}
	for i, want := range [][]string{{Leaf("b"), Leaf("c")}, {Leaf("a"), Leaf("c")}, {ab}} {
		if path, e := Path(l, i); e != api.OK || !slices.Equal(path, want) {
			t.Errorf("Path of %d: %x, %v", i, path, e)
		}
	}
}

// 3.1: the root, whatever the list's length is.
func TestRoot(t *testing.T) {
	for n := 1; n <= api.MaxLeaves; n++ {
		l := list(n)
		if root, e := Root(l); e != api.OK || root != rootByDocument(l) {
			t.Errorf("Root of %d: %x, %v", n, root, e)
		}
	}
	for _, l := range [][]string{{""}, {"", ""}, {"", "", ""}, slices.Repeat([]string{"x"}, 9), slices.Repeat([]string{strings.Repeat("x", api.MaxLeaf)}, api.MaxLeaves)} {
		if root, e := Root(l); e != api.OK || root != rootByDocument(l) {
			t.Errorf("Root of %d like ones: %x, %v", len(l), root, e)
		}
	}
}

// 3.1: the path and its length.
func TestPath(t *testing.T) {
	for _, n := range counts() {
		l := list(n)
		for _, i := range some(n) {
			want := pathByDocument(l, i)
			if path, e := Path(l, i); e != api.OK || !slices.Equal(path, want) {
				t.Errorf("Path of %d of %d: %x, %v", i, n, path, e)
			}
		}
		for i := range n {
			if got, want := Depth(n, i), depthByDocument(n, i); got != want {
				t.Errorf("Depth(%d, %d) = %d, want %d", n, i, got, want)
			}
		}
	}
}

func depthByDocument(n, i int) int {
	if n == 1 {
		return 0
	}
	k := split(n)
	if i < k {
		return 1 + depthByDocument(k, i)
	}
	return 1 + depthByDocument(n-k, i-k)
}

// 3.1: lists that may not be, and places that are none; the list is asked first.
func TestRootAndPathErrors(t *testing.T) {
	for name, x := range wrongLists() {
		if root, e := Root(x.l); root != "" || e != x.want {
			t.Errorf("Root of %s: %x, %v, want %v", name, root, e, x.want)
		}
		for _, i := range []int{0, 1, -1, len(x.l), math.MinInt, math.MaxInt} {
			if path, e := Path(x.l, i); len(path) != 0 || e != x.want {
				t.Errorf("Path of %d of %s: %x, %v, want %v", i, name, path, e, x.want)
			}
		}
	}
	for _, n := range []int{1, 2, 3, 8, 255, 256} {
		for _, i := range []int{-1, n, n + 1, math.MinInt, math.MaxInt} {
			if path, e := Path(list(n), i); len(path) != 0 || e != api.ErrArg {
				t.Errorf("Path of %d of %d: %x, %v", i, n, path, e)
			}
		}
	}
}

// 3.1: which depths there are not.
func TestDepthOfNothing(t *testing.T) {
	for _, x := range [][2]int{
		{0, 0}, {0, -1}, {-1, 0}, {-1, -2}, {1, 1}, {1, -1}, {2, 2}, {256, 256}, {256, -1}, {257, 0}, {257, 256}, {512, 3},
		{math.MinInt, 0}, {math.MaxInt, 0}, {5, math.MinInt}, {5, math.MaxInt}, {math.MaxInt, math.MaxInt}, {math.MinInt, math.MinInt},
	} {
		if got := Depth(x[0], x[1]); got != -1 {
			t.Errorf("Depth(%d, %d) = %d", x[0], x[1], got)
		}
	}
}

// 3.3: the texts, in the order in which they are summed.
func TestTexts(t *testing.T) {
	for _, n := range counts() {
		l := list(n)
		if got := Texts(l); !slices.Equal(got, textsByDocument(l)) {
			t.Errorf("Texts of %d: %q", n, got)
		}
	}
	like := []string{"x", "x", "x"}
	if got := Texts(like); !slices.Equal(got, textsByDocument(like)) {
		t.Errorf("Texts of like ones: %q", got)
	}
	for name, x := range wrongLists() {
		if got := Texts(x.l); len(got) != 0 {
			t.Errorf("Texts of %s: %d", name, len(got))
		}
	}
}

// R3: a list that is handed in is not changed, and what is answered is nobody else's.
func TestListsAreLeftAlone(t *testing.T) {
	l := list(11)
	root, _ := Root(l)
	path, _ := Path(l, 4)
	texts := Texts(l)
	kept, keptTexts := slices.Clone(path), slices.Clone(texts)
	if !slices.Equal(l, list(11)) {
		t.Fatalf("the leaves: %q", l)
	}
	climb, road := Climb(11, 4, Leaf(l[4]), path), Road(11, 4, l[4], path)
	clear(climb)
	clear(road)
	if !slices.Equal(path, kept) {
		t.Errorf("the path is changed")
	}
	clear(path)
	clear(texts)
	again, _ := Path(l, 4)
	if r, _ := Root(l); r != root || !slices.Equal(again, kept) || !slices.Equal(Texts(l), keptTexts) || !slices.Equal(l, list(11)) {
		t.Errorf("an answer is somebody else's")
	}
}
