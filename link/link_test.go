package link

import (
	"fmt"
	"math"
	"math/rand"
	"slices"
	"strings"
	"testing"

	"mosaic/api"
)

const top = api.MaxPlace

// name is 32 bytes of all kinds.
func name() string {
	return "\x00\x01\xff\x80 0123456789abcdefghijklmnopq"
}

// whole is a link that has everything.
func whole() api.Link {
	return api.Link{Name: name(), Title: "a b", Nodes: []int{2, 9}, At: []api.Place{{X: 5, Y: -7}, {X: 1}}}
}

// places are n unlike places.
func places(n int) []api.Place {
	var l []api.Place
	for i := range n {
		l = append(l, api.Place{X: i * 1000, Y: -i})
	}
	return l
}

// rightOnes are links that may be, at the edges of each part.
func rightOnes() []api.Link {
	l := []api.Link{whole(), {Name: name()}, {Name: strings.Repeat("\x00", 32)}, {Name: strings.Repeat("\xff", 32)}, {Name: name(), Nodes: []int{}, At: []api.Place{}}}
	for _, title := range []string{"x", " ", "~", "\x80", "\xff", "%", "a&node=1,2,3", "?title=", "&", "title=", strings.Repeat("x", 59), strings.Repeat("x", 60), strings.Repeat("\xff", 60), "é\u0080"} {
		l = append(l, api.Link{Name: name(), Title: title}, api.Link{Name: name(), Title: title, Nodes: []int{7}, At: places(1)})
	}
	for _, nodes := range [][]int{{1}, {15}, {1, 15}, {14, 15}, {1, 2, 3, 4, 5, 6}, {10, 11, 12, 13, 14, 15}, {1, 3, 9}, {9, 10}} {
		l = append(l, api.Link{Name: name(), Nodes: nodes, At: places(len(nodes))})
	}
	for _, at := range []api.Place{{}, {X: top, Y: top}, {X: -top, Y: -top}, {X: top, Y: -top}, {X: -1, Y: 1}, {X: 10, Y: -10}, {X: 0, Y: 100}} {
		l = append(l, api.Link{Name: name(), Nodes: []int{3, 4}, At: []api.Place{at, at}})
	}
	return l
}

// wrongOnes are links that may not be, in one part each.
func wrongOnes() []api.Link {
	var l []api.Link
	add := func(change func(x *api.Link)) {
		x := whole()
		change(&x)
		l = append(l, x)
	}
	add(func(x *api.Link) { *x = api.Link{} })
	for _, s := range []string{"", "x", name()[1:], name() + "x", name() + name(), strings.Repeat("x", 52), strings.Repeat("x", 70000)} {
		add(func(x *api.Link) { x.Name = s })
	}
	for c := range 32 {
		add(func(x *api.Link) { x.Title = string([]byte{byte(c)}) })
		add(func(x *api.Link) { x.Title = "abc" + string([]byte{byte(c)}) + "d" })
	}
	for _, s := range []string{"\x7f", "abc\x7f", "\x7fabc", strings.Repeat("x", 61), strings.Repeat("x", 62), strings.Repeat("x", 256+3), strings.Repeat("x", 70000)} {
		add(func(x *api.Link) { x.Title = s })
	}
	for _, nodes := range [][]int{{0}, {-1}, {16}, {math.MaxInt}, {math.MinInt}, {256 + 1}, {1<<32 + 1}, {0, 1}, {15, 16}, {2, 1}, {1, 1}, {15, 15}, {1, 3, 2}, {1, 2, 2}, {3, 2, 4}, {math.MaxInt, math.MinInt}, {1, 2, 3, 4, 5, 6, 7}, {1, 2, 3, 4, 5, 6, 7, 8}} {
		add(func(x *api.Link) { x.Nodes, x.At = nodes, places(len(nodes)) })
	}
	add(func(x *api.Link) { x.Nodes = nil })
	add(func(x *api.Link) { x.At = nil })
	add(func(x *api.Link) { x.Nodes = []int{1} })
	add(func(x *api.Link) { x.Nodes = []int{1, 2, 3} })
	add(func(x *api.Link) { x.At = places(1) })
	add(func(x *api.Link) { x.At = places(3) })
	add(func(x *api.Link) { x.At = places(5000) })
	for _, n := range []int{top + 1, -top - 1, 1 << 32, math.MaxInt, math.MinInt} {
		add(func(x *api.Link) { x.At[0].X = n })
		add(func(x *api.Link) { x.At[0].Y = n })
		add(func(x *api.Link) { x.At[1].X = n })
		add(func(x *api.Link) { x.At[1].Y = n })
	}
	return l
}

// textByDocument writes part by part, whatever is written.
func textByDocument(l api.Link) string {
	s := "mosaic:" + inBase32().EncodeToString([]byte(l.Name))
	before := "?"
	if l.Title != "" {
		s += "?title=" + escapedByDocument(l.Title)
		before = "&"
	}
	for i := range min(len(l.Nodes), len(l.At)) {
		s += fmt.Sprintf("%snode=%d,%d,%d", before, l.Nodes[i], l.At[i].X, l.At[i].Y)
		before = "&"
	}
	return s
}

func same(a, b api.Link) bool {
	return a.Name == b.Name && a.Title == b.Title && slices.Equal(a.Nodes, b.Nodes) && slices.Equal(a.At, b.At)
}

// 29.2: which links may be.
func TestCheck(t *testing.T) {
	for _, l := range rightOnes() {
		if !Check(l) {
			t.Errorf("%v may not be", l)
		}
	}
	for _, l := range wrongOnes() {
		if Check(l) {
			t.Errorf("%v may be", l)
		}
	}
}

// 29.2, 29.3: links are written and read; no two as one text.
func TestTextAndRead(t *testing.T) {
	texts := map[string]api.Link{}
	for _, l := range rightOnes() {
		want := textByDocument(l)
		s, e := Text(l)
		if s != want || e != api.OK {
			t.Errorf("Text(%v) = %q, %v, want %q", l, s, e, want)
		}
		if got, e := Read(want); e != api.OK || !same(got, l) {
			t.Errorf("Read(%q) = %v, %v", want, got, e)
		}
		if other, is := texts[s]; is && !same(l, other) {
			t.Errorf("%v and %v are both %q", l, other, s)
		}
		texts[s] = l
	}
	for _, l := range wrongOnes() {
		if s, e := Text(l); s != "" || e != api.ErrArg {
			t.Errorf("Text(%v) = %q, %v", l, s, e)
		}
	}
}

// The text by hand: of a bare link, of one with a title, of one with nodes, of one with both.
func TestExamples(t *testing.T) {
	bare := "mosaic:" + strings.Repeat("a", 52)
	zero := strings.Repeat("\x00", 32)
	for s, l := range map[string]api.Link{
		bare:                                    {Name: zero},
		bare + "?title=a%20b%2Fc":               {Name: zero, Title: "a b/c"},
		bare + "?node=1,-2,30":                  {Name: zero, Nodes: []int{1}, At: []api.Place{{X: -2, Y: 30}}},
		bare + "?node=1,0,0&node=15,1048576,-9": {Name: zero, Nodes: []int{1, 15}, At: []api.Place{{}, {X: top, Y: -9}}},
		bare + "?title=%FF&node=2,5,-7&node=9,1,0": {Name: zero, Title: "\xff", Nodes: []int{2, 9}, At: []api.Place{{X: 5, Y: -7}, {X: 1}}},
	} {
		if got, e := Text(l); got != s || e != api.OK {
			t.Errorf("Text(%v) = %q, %v, want %q", l, got, e, s)
		}
		if got, e := Read(s); !same(got, l) || e != api.OK {
			t.Errorf("Read(%q) = %v, %v, want %v", s, got, e, l)
		}
	}
	if s, _ := Text(api.Link{Name: strings.Repeat("\xff", 32)}); s != "mosaic:"+strings.Repeat("7", 51)+"q" {
		t.Errorf("Text: %q", s)
	}
}

// 29.2, 29.3: texts of no link: parts that lack, are double, out of order, too many, written otherwise, or may not be.
func TestReadOfNone(t *testing.T) {
	bare := "mosaic:" + strings.Repeat("a", 52)
	wrong := []string{"", "mosaic", "mosaic:", "mosaic:?title=x", strings.Repeat("a", 52), "Mosaic:" + bare[7:], "mosaic" + bare[7:], "mosaic::" + bare[7:], "mosaic:" + bare, bare + bare, " " + bare, bare + " ", bare + "\n", "magnet:" + bare[7:],
		bare[:58], bare + "a", bare + "aaaa", bare[:58] + "b", bare[:58] + "A", "mosaic:" + strings.Repeat("A", 52), bare + "====", bare[:20], "mosaic:" + strings.Repeat("a", 50) + "==", "mosaic:" + strings.Repeat("a", 51) + "1"}
	for _, s := range []string{
		"?", "&", "??", "?&", "#", "/", "?x", "?x=1", "?title", "?title=", "?title=&node=1,0,0", "&title=x", "&node=1,0,0", "?Title=x", "?title=x&", "?title=x?", "?title=x&title=x", "?title=x&title=y", "?title=a b", "?title=%20%", "?title=%61", "?title=%2f", "?title=%0A", "?title=%00", "?title=%7F", "?title=x=y", "?title=x,y", "?title=a/b",
		"?title=x?node=1,0,0", "?node=1,0,0?node=2,0,0", "?node=1,0,0&title=x", "?node=1,0,0&", "?node=1,0,0&&node=2,0,0", "?&node=1,0,0", "?node", "?node=", "?node=1", "?node=1,", "?node=1,2", "?node=1,2,", "?node=1,,3", "?node=,2,3", "?node=,,", "?node=1,2,3,", "?node=1,2,3,4", "?1,2,3", "?title=x&1,2,3", "?Node=1,2,3", "?node=1;2;3", "?node=a,2,3", "?node=1,a,3", "?node=1,2,a",
		"?node=01,2,3", "?node=1,02,3", "?node=1,2,03", "?node=+1,2,3", "?node=1,+2,3", "?node=1,2,+3", "?node=1,-0,3", "?node=1,2,-0", "?node= 1,2,3", "?node=1, 2,3", "?node=1,2,3 ", "?node=0x1,2,3", "?node=1,2.0,3", "?node=1,1e3,3", "?node=1,1_0,3", "?node=1,--2,3", "?node=1,2-,3",
		"?node=0,2,3", "?node=-1,2,3", "?node=16,2,3", "?node=99999999999999999999,2,3", "?node=1,1048577,3", "?node=1,2,1048577", "?node=1,-1048577,3", "?node=1,2,-1048577", "?node=1,99999999999999999999,3", "?node=1,2,-99999999999999999999", "?node=18446744073709551617,2,3",
		"?node=2,0,0&node=1,0,0", "?node=1,0,0&node=1,0,0", "?node=1,0,0&node=1,5,5", "?node=1,0,0&node=2,0,0&node=3,0,0&node=4,0,0&node=5,0,0&node=6,0,0&node=7,0,0", "?node=1,0,0&node=2,0", "?node=1,0,0&x=1", "?title=" + strings.Repeat("x", 61), "?title=" + strings.Repeat("%20", 61), "?title=x#y", strings.Repeat("?node=1,0,0", 5000), strings.Repeat("&", 5000), "?" + strings.Repeat("&node=1,0,0", 5000), "?" + strings.Repeat("&", 70000),
	} {
		wrong = append(wrong, bare+s)
	}
	for _, l := range wrongOnes() {
		if len(l.Nodes) == len(l.At) {
			wrong = append(wrong, textByDocument(l))
		}
	}
	for _, s := range wrong {
		if l, e := Read(s); e != api.ErrForm || !same(l, api.Link{}) || l.Nodes != nil || l.At != nil {
			t.Errorf("Read(%q) = %v, %v", s, l, e)
		}
	}
}

// 29.3: of texts about those of links, with a byte changed, put in or left out, just those are read that are written so.
func TestReadInOneWayAlone(t *testing.T) {
	read, not := 0, 0
	one := func(s string) {
		l, e := Read(s)
		if e == api.OK && (!Check(l) || textByDocument(l) != s) || e != api.OK && (e != api.ErrForm || !same(l, api.Link{})) {
			t.Errorf("Read(%q) = %v, %v", s, l, e)
		}
		if e == api.OK {
			read++
		} else {
			not++
		}
	}
	for _, l := range []api.Link{whole(), rightOnes()[len(rightOnes())-1]} {
		s := textByDocument(l)
		for i := range s {
			one(s[:i])
			one(s[:i] + s[i+1:])
			for c := range 256 {
				one(s[:i] + string([]byte{byte(c)}) + s[i+1:])
				one(s[:i] + string([]byte{byte(c)}) + s[i:])
			}
		}
	}
	if read < 1000 || not < 10000 {
		t.Errorf("%d are read, %d are not", read, not)
	}
}

// 29.2: the nearest node, of several the first one.
func TestNearest(t *testing.T) {
	chance := rand.New(rand.NewSource(292))
	for range 3000 {
		l := api.Link{Name: name()}
		most := []int{1, 3, top}[chance.Intn(3)]
		some := func() api.Place { return api.Place{X: chance.Intn(2*most+1) - most, Y: chance.Intn(2*most+1) - most} }
		for node := 1; node <= 15 && len(l.Nodes) < 6; node++ {
			if chance.Intn(3) == 0 {
				l.Nodes, l.At = append(l.Nodes, node), append(l.At, some())
			}
		}
		from := some()
		want, least := 0, math.MaxInt
		for i, p := range l.At {
			if d := (p.X-from.X)*(p.X-from.X) + (p.Y-from.Y)*(p.Y-from.Y); d < least {
				want, least = l.Nodes[i], d
			}
		}
		got, e := Nearest(l, from)
		if want == 0 && (got != 0 || e != api.ErrNone) || want != 0 && (got != want || e != api.OK) {
			t.Errorf("Nearest(%v, %v) = %d, %v, want %d", l, from, got, e, want)
		}
	}
}

// 29.2: links and places that may not be, ahead of a link that has no nodes.
func TestNearestErrors(t *testing.T) {
	if n, e := Nearest(api.Link{Name: name()}, api.Place{X: top, Y: -top}); n != 0 || e != api.ErrNone {
		t.Errorf("Nearest of none: %d, %v", n, e)
	}
	for _, l := range wrongOnes() {
		if n, e := Nearest(l, api.Place{}); n != 0 || e != api.ErrArg {
			t.Errorf("Nearest(%v) = %d, %v", l, n, e)
		}
	}
	for _, at := range []api.Place{{X: top + 1}, {Y: -top - 1}, {X: math.MaxInt}, {Y: math.MinInt}} {
		for _, l := range []api.Link{whole(), {Name: name()}, {}} {
			if n, e := Nearest(l, at); n != 0 || e != api.ErrArg {
				t.Errorf("Nearest(%v, %v) = %d, %v", l, at, n, e)
			}
		}
	}
}

// R3: lists that are handed in are not changed, and those that are answered are new.
func TestListsAreNotShared(t *testing.T) {
	l := whole()
	s, _ := Text(l)
	Nearest(l, api.Place{})
	if !same(l, whole()) {
		t.Errorf("the link is changed: %v", l)
	}
	a, _ := Read(s)
	b, _ := Read(s)
	clear(a.Nodes)
	clear(a.At)
	if !same(b, l) {
		t.Errorf("two links share memory")
	}
}
