package tracker

import (
	"fmt"
	"math"
	"slices"
	"strings"
	"testing"

	"mosaic/api"
	"mosaic/link"
)

const (
	top  = api.MaxPlace
	last = api.MaxTick
)

// named is the k-th name.
func named(k int) string {
	return fmt.Sprintf("%032d", k)
}

// note is what is announced of a node at X = x.
func note(name string, node, x, until int) Note {
	return Note{Name: name, Node: node, At: api.Place{X: x}, Until: until}
}

// wrongTimes are no times, wrongNodes no nodes' numbers, wrongPlaces may not be, wrongNames are none.
func wrongTimes() []int {
	return []int{-1, -2, last + 1, last + 2, math.MaxInt, math.MinInt}
}

func wrongNodes() []int {
	return []int{0, -1, 16, 17, 256 + 1, 1<<32 + 1, math.MaxInt, math.MinInt}
}

func wrongPlaces() []api.Place {
	return []api.Place{{X: top + 1}, {X: -top - 1}, {Y: top + 1}, {Y: -top - 1}, {X: math.MaxInt}, {Y: math.MinInt}}
}

func wrongNames() []string {
	return []string{"", "a", strings.Repeat("a", 31), strings.Repeat("a", 33), strings.Repeat("a", 64), strings.Repeat("a", 256+32)}
}

// need asks for an error.
func need(t *testing.T, what string, got, want api.Errno) {
	t.Helper()
	if got != want {
		t.Errorf("%s: %v, want %v", what, got, want)
	}
}

// announce announces several at a time.
func announce(t *testing.T, x *Table, now int, l ...Note) {
	t.Helper()
	for _, n := range l {
		need(t, "Announce", x.Announce(n, now), api.OK)
	}
}

// has asks for the nodes of a name at a time.
func has(t *testing.T, x *Table, name string, now int, want ...int) {
	t.Helper()
	var got []int
	for _, n := range x.Nodes(name, now) {
		got = append(got, n.Node)
	}
	if !slices.Equal(got, want) {
		t.Errorf("at %d there are the nodes %v, want %v", now, got, want)
	}
}

// finds asks for what Find answers.
func finds(t *testing.T, x *Table, name string, at api.Place, k, now int, want ...int) {
	t.Helper()
	if got, e := x.Find(name, at, k, now); e != api.OK || !slices.Equal(got, want) {
		t.Errorf("Find at %v, %d of time %d: %v, %v, want %v", at, k, now, got, e, want)
	}
}

// state is all that calls tell of a table at some times.
func state(x *Table) string {
	var l []string
	for _, now := range []int{0, 1, 2, 3, 4, 5, 6, 7, 8, 9, 10, 20, 30, 99, 100, last - 1, last} {
		for _, name := range x.Names(now) {
			l = append(l, fmt.Sprint(now, x.Nodes(name, now)))
		}
	}
	return strings.Join(l, "\n")
}

// unchanged asks that what is done changes nothing.
func unchanged(t *testing.T, what string, x *Table, do func()) {
	t.Helper()
	before := state(x)
	do()
	if now := state(x); now != before {
		t.Errorf("%s has changed something: %s\nit was %s", what, now, before)
	}
}

// 31.1: of which room there is a table.
func TestNew(t *testing.T) {
	if MaxNames != 64 {
		t.Errorf("MaxNames: %d", MaxNames)
	}
	for _, room := range []int{1, 2, 63, 64} {
		x := New(room)
		if x == nil || x.Len(0) != 0 || len(x.Names(0)) != 0 {
			t.Fatalf("New(%d): %v", room, x)
		}
		for k := range room {
			announce(t, x, 0, note(named(k), 1, 0, 5))
		}
		need(t, "one more", x.Announce(note(named(room), 1, 0, 5), 0), api.ErrFull)
		if x.Len(0) != room {
			t.Errorf("%d names, want %d", x.Len(0), room)
		}
	}
	for _, room := range []int{0, -1, 65, 66, 256 + 1, 1<<32 + 1, math.MaxInt, math.MinInt} {
		if New(room) != nil {
			t.Errorf("there is a table of room %d", room)
		}
	}
}

// The chapter's example.
func TestExample(t *testing.T) {
	x, a := New(1), named(1)
	announce(t, x, 0, note(a, 3, 0, 9), note(a, 5, 0, 4))
	has(t, x, a, 4, 3, 5)
	has(t, x, a, 5, 3)
	has(t, x, a, 9, 3)
	has(t, x, a, 10)
	if x.Len(9) != 1 || x.Len(10) != 0 || len(x.Names(10)) != 0 {
		t.Errorf("the name: %d, %d, %q", x.Len(9), x.Len(10), x.Names(10))
	}
	if _, e := x.Find(a, api.Place{}, 1, 10); e != api.ErrNone {
		t.Errorf("Find: %v", e)
	}
}

// 31.1: what may be announced, at its edges, is told as it was.
func TestAnnounce(t *testing.T) {
	for _, name := range []string{named(1), strings.Repeat("\x00", 32), strings.Repeat("\xff", 32)} {
		for _, node := range []int{1, 2, 14, 15} {
			for _, at := range []api.Place{{}, {X: top, Y: -top}, {X: -top, Y: top}} {
				for _, y := range [][2]int{{0, 0}, {0, 1}, {0, last}, {5, 5}, {last, last}, {last - 1, last}} {
					x := New(1)
					n := Note{Name: name, Node: node, At: at, Until: y[1]}
					announce(t, x, y[0], n)
					if l := x.Nodes(name, y[0]); !slices.Equal(l, []Note{n}) {
						t.Errorf("announced %v, told %v", n, l)
					}
					has(t, x, name, y[1], node)
					has(t, x, name, y[1]+1)
				}
			}
		}
	}
}

// 31.1: what may not be announced changes nothing, not even what does not count any more; it is told ahead of ErrFull.
func TestAnnounceOfWrong(t *testing.T) {
	x := New(1)
	announce(t, x, 0, note(named(1), 3, 0, 9), note(named(1), 4, 0, 2))
	unchanged(t, "a wrong Announce", x, func() {
		for _, name := range []string{named(1), named(2)} {
			for _, now := range wrongTimes() {
				need(t, "at no time", x.Announce(note(name, 3, 0, 50), now), api.ErrArg)
				need(t, "up to no time", x.Announce(note(name, 3, 0, now), 5), api.ErrArg)
				need(t, "up to now, which is no time", x.Announce(note(name, 3, 0, now), now), api.ErrArg)
			}
			for _, node := range wrongNodes() {
				need(t, "no node", x.Announce(note(name, node, 0, 50), 5), api.ErrArg)
			}
			for _, at := range wrongPlaces() {
				need(t, "no place", x.Announce(Note{Name: name, Node: 3, At: at, Until: 50}, 5), api.ErrArg)
			}
			for _, until := range []int{0, 4} {
				need(t, "up to a time that is past", x.Announce(note(name, 3, 0, until), 5), api.ErrArg)
			}
			need(t, "one tick too late", x.Announce(note(name, 3, 0, last-1), last), api.ErrArg)
		}
		for _, name := range wrongNames() {
			need(t, "no name", x.Announce(note(name, 3, 0, 50), 5), api.ErrArg)
		}
		need(t, "nothing", x.Announce(Note{}, 0), api.ErrArg)
		need(t, "another name", x.Announce(note(named(2), 3, 0, 50), 9), api.ErrFull)
	})
}

// 31.1: a node is announced in the place of what was announced of it under that name, be that longer or not; under other names it stays.
func TestAnnounceAnew(t *testing.T) {
	x, a, b := New(2), named(1), named(2)
	announce(t, x, 0, note(a, 3, 5, 9), note(b, 3, 5, 9), note(a, 4, 5, 9))
	announce(t, x, 1, note(a, 3, 7, 4))
	if l := x.Nodes(a, 1); !slices.Equal(l, []Note{note(a, 3, 7, 4), note(a, 4, 5, 9)}) {
		t.Errorf("announced anew: %v", l)
	}
	if l := x.Nodes(b, 1); !slices.Equal(l, []Note{note(b, 3, 5, 9)}) {
		t.Errorf("of another name: %v", l)
	}
	has(t, x, a, 5, 4)
	announce(t, x, 2, note(a, 3, 8, 30))
	has(t, x, a, 30, 3)
}

// 31.1: there is room again when a name is not there any more; a name that is there takes none.
func TestFull(t *testing.T) {
	x := New(2)
	announce(t, x, 0, note(named(1), 1, 0, 5), note(named(2), 1, 0, 8))
	for now := range 6 {
		need(t, "a third name", x.Announce(note(named(3), 1, 0, 50), now), api.ErrFull)
	}
	announce(t, x, 5, note(named(2), 2, 0, 8), note(named(1), 2, 0, 5))
	announce(t, x, 6, note(named(3), 1, 0, 50))
	need(t, "the first name", x.Announce(note(named(1), 1, 0, 50), 6), api.ErrFull)
	need(t, "the first name, earlier", x.Announce(note(named(1), 1, 0, 50), 0), api.ErrFull)
	need(t, "Leave", x.Leave(named(3), 1, 6), api.OK)
	announce(t, x, 6, note(named(1), 1, 0, 50))
	if !slices.Equal(x.Names(6), []string{named(1), named(2)}) {
		t.Errorf("Names: %q", x.Names(6))
	}
}

// 31.1: of a full table's name that does not count any more, announced anew, there is room for itself.
func TestRoomForItself(t *testing.T) {
	x := New(1)
	announce(t, x, 0, note(named(1), 1, 0, 5))
	announce(t, x, 9, note(named(1), 2, 0, 15))
	has(t, x, named(1), 0, 2)
	announce(t, x, 16, note(named(2), 2, 0, 20))
	if !slices.Equal(x.Names(0), []string{named(2)}) {
		t.Errorf("Names: %q", x.Names(0))
	}
}

// 31.1: Announce forgets what does not count at its time, for earlier times, too; nothing else forgets.
func TestForget(t *testing.T) {
	x, a, b := New(3), named(1), named(2)
	announce(t, x, 0, note(a, 1, 0, 4), note(a, 2, 0, 5), note(b, 1, 0, 4))
	unchanged(t, "a call that asks", x, func() {
		x.Find(a, api.Place{}, 5, 99)
		x.Nodes(a, 99)
		x.Names(99)
		x.Len(99)
		x.Link(a, "", api.Place{}, 99)
		x.Leave(a, 1, 99)
		x.Leave(b, 1, 5)
	})
	announce(t, x, 5, note(named(3), 1, 0, 9))
	has(t, x, a, 0, 2)
	has(t, x, b, 0)
	if !slices.Equal(x.Names(0), []string{a, named(3)}) {
		t.Errorf("Names: %q", x.Names(0))
	}
	// times may go back: what counted at 5 does so ahead of it
	announce(t, x, 2, note(b, 7, 0, 3))
	has(t, x, a, 2, 2)
	has(t, x, b, 3, 7)
}

// 31.1: who leaves is gone at all times, under this name alone; the others stay, and those, too, that do not count.
func TestLeave(t *testing.T) {
	x, a, b := New(2), named(1), named(2)
	announce(t, x, 0, note(a, 3, 0, 9), note(a, 5, 0, 4), note(a, 7, 0, 20), note(b, 3, 0, 9))
	need(t, "Leave", x.Leave(a, 3, 6), api.OK)
	need(t, "Leave again", x.Leave(a, 3, 6), api.ErrNone)
	has(t, x, a, 0, 5, 7)
	has(t, x, a, 4, 5, 7)
	has(t, x, a, 5, 7)
	has(t, x, b, 9, 3)
	need(t, "Leave of who does not count", x.Leave(a, 5, 5), api.ErrNone)
	need(t, "Leave of who counts up to now", x.Leave(a, 5, 4), api.OK)
	need(t, "Leave of the last one", x.Leave(a, 7, 20), api.OK)
	has(t, x, a, 0)
	if x.Len(0) != 1 {
		t.Errorf("Names: %q", x.Names(0))
	}
	announce(t, x, 0, note(a, 3, 1, 2))
	has(t, x, a, 0, 3)
}

// 31.1: who can not leave; no time is told ahead of nobody.
func TestLeaveOfWrong(t *testing.T) {
	x, a := New(2), named(1)
	announce(t, x, 0, note(a, 3, 0, 9))
	unchanged(t, "a wrong Leave", x, func() {
		for _, now := range wrongTimes() {
			need(t, "at no time", x.Leave(a, 3, now), api.ErrArg)
			need(t, "nobody at no time", x.Leave("x", 99, now), api.ErrArg)
		}
		for _, node := range append(wrongNodes(), 1, 4, 15) {
			need(t, "nobody", x.Leave(a, node, 1), api.ErrNone)
		}
		for _, name := range append(wrongNames(), named(2)) {
			need(t, "no name", x.Leave(name, 3, 1), api.ErrNone)
		}
		need(t, "too late", x.Leave(a, 3, 10), api.ErrNone)
	})
}

// 31.2: nodes by their distance, of one distance by their numbers, at most so many.
func TestFind(t *testing.T) {
	x, a := New(1), named(1)
	places := map[int]api.Place{2: {X: 5}, 4: {X: 3, Y: -4}, 6: {X: 1}, 9: {X: -5}, 11: {X: 4, Y: 4}, 15: {X: top, Y: top}}
	for node, at := range places {
		announce(t, x, 0, Note{Name: a, Node: node, At: at, Until: 10 + node})
	}
	all := []int{6, 2, 4, 9, 11, 15}
	for k := range 8 {
		finds(t, x, a, api.Place{}, k, 3, all[:min(k, 6)]...)
	}
	finds(t, x, a, api.Place{}, math.MaxInt, 3, all...)
	finds(t, x, a, api.Place{X: top, Y: top}, 2, 3, 15, 11)
	finds(t, x, a, api.Place{X: -6}, 3, 3, 9, 6, 4)
	finds(t, x, a, api.Place{}, 3, 13, 6, 4, 9)
	finds(t, x, a, api.Place{}, 3, 25, 15)
	finds(t, x, a, api.Place{}, 0, 25)
}

// 31.2: ErrArg of each argument, ahead of ErrNone.
func TestFindErrors(t *testing.T) {
	x, a := New(2), named(1)
	announce(t, x, 0, note(a, 3, 0, 9))
	find := func(what string, name string, at api.Place, k, now int, want api.Errno) {
		t.Helper()
		if l, e := x.Find(name, at, k, now); e != want || len(l) != 0 {
			t.Errorf("%s: %v, %v, want %v", what, l, e, want)
		}
	}
	for _, name := range []string{a, named(2), "x"} {
		for _, now := range wrongTimes() {
			find("at no time", name, api.Place{}, 1, now, api.ErrArg)
		}
		for _, at := range wrongPlaces() {
			find("at no place", name, at, 1, 5, api.ErrArg)
		}
		for _, k := range []int{-1, -2, math.MinInt} {
			find("fewer than none", name, api.Place{}, k, 5, api.ErrArg)
		}
	}
	for _, name := range append(wrongNames(), named(2)) {
		find("no name", name, api.Place{}, 1, 5, api.ErrNone)
		find("no name", name, api.Place{}, 0, 5, api.ErrNone)
	}
	find("a name that does not count any more", a, api.Place{}, 1, 10, api.ErrNone)
}

// 31.2: names by their bytes, nodes by their numbers; of no time there is nothing.
func TestNamesAndNodes(t *testing.T) {
	x := New(64)
	names := []string{strings.Repeat("b", 32), strings.Repeat("a", 32), strings.Repeat("\xff", 32), strings.Repeat("B", 32), strings.Repeat("\x00", 32), strings.Repeat("a", 31) + "\x80"}
	for i, name := range names {
		announce(t, x, 0, note(name, 15, 2, last), note(name, 1, 9, last), note(name, 7, 1, 10+i))
	}
	slices.Sort(names)
	if !slices.Equal(x.Names(last), names) || x.Len(last) != 6 || x.Len(0) != 6 {
		t.Errorf("Names: %q", x.Names(last))
	}
	for _, name := range names {
		has(t, x, name, 10, 1, 7, 15)
		has(t, x, name, 16, 1, 15)
		for _, now := range wrongTimes() {
			has(t, x, name, now)
			if len(x.Names(now)) != 0 || x.Len(now) != 0 {
				t.Errorf("at %d there is something: %q, %d", now, x.Names(now), x.Len(now))
			}
		}
	}
	for _, name := range append(wrongNames(), named(3)) {
		has(t, x, name, 0)
	}
}

// 31.3: the link has the nearest six nodes, by their numbers, and their places.
func TestLink(t *testing.T) {
	x, a := New(1), named(1)
	for node := 1; node <= 15; node++ {
		announce(t, x, 0, Note{Name: a, Node: node, At: api.Place{X: (node * 7) % 16, Y: -node}, Until: node})
	}
	for _, now := range []int{0, 1, 7, 10, 11, 15} {
		for _, at := range []api.Place{{}, {X: 9, Y: -9}, {X: 15, Y: -3}, {X: -top, Y: -top}} {
			nodes, _ := x.Find(a, at, 6, now)
			slices.Sort(nodes)
			want := api.Link{Name: a, Title: "a b", Nodes: nodes}
			for _, node := range nodes {
				want.At = append(want.At, api.Place{X: (node * 7) % 16, Y: -node})
			}
			text, _ := link.Text(want)
			if s, e := x.Link(a, "a b", at, now); s != text || text == "" || e != api.OK {
				t.Errorf("Link at %v, %d = %q, %v, want %q", at, now, s, e, text)
			}
		}
	}
	x = New(1)
	announce(t, x, 0, Note{Name: strings.Repeat("\x00", 32), Node: 9, At: api.Place{X: -2, Y: 30}, Until: 3}, Note{Name: strings.Repeat("\x00", 32), Node: 3, At: api.Place{X: 1, Y: 1}, Until: 3})
	want := "mosaic:" + strings.Repeat("a", 52) + "?node=3,1,1&node=9,-2,30"
	if s, e := x.Link(strings.Repeat("\x00", 32), "", api.Place{}, 3); s != want || e != api.OK {
		t.Errorf("Link: %q, %v, want %q", s, e, want)
	}
}

// 31.3: Find's errors, then that of the link's text.
func TestLinkErrors(t *testing.T) {
	x, a := New(2), named(1)
	announce(t, x, 0, note(a, 3, 0, 9))
	write := func(what string, name, title string, at api.Place, now int, want api.Errno) {
		t.Helper()
		if s, e := x.Link(name, title, at, now); e != want || s != "" {
			t.Errorf("%s: %q, %v, want %v", what, s, e, want)
		}
	}
	for _, title := range []string{"", "x", "\n", strings.Repeat("x", 61)} {
		for _, now := range wrongTimes() {
			write("at no time", a, title, api.Place{}, now, api.ErrArg)
			write("no name at no time", "x", title, api.Place{}, now, api.ErrArg)
		}
		for _, at := range wrongPlaces() {
			write("at no place", a, title, at, 5, api.ErrArg)
			write("no name at no place", "x", title, at, 5, api.ErrArg)
		}
		for _, name := range append(wrongNames(), named(2)) {
			write("no name", name, title, api.Place{}, 5, api.ErrNone)
		}
		write("too late", a, title, api.Place{}, 10, api.ErrNone)
	}
	for _, title := range []string{"\n", "a\x7f", strings.Repeat("x", 61)} {
		write("no title", a, title, api.Place{}, 5, api.ErrArg)
	}
}

// 31.3: a nil table.
func TestNil(t *testing.T) {
	var x *Table
	need(t, "Announce", x.Announce(note(named(1), 1, 0, 5), 0), api.ErrArg)
	need(t, "Leave", x.Leave(named(1), 1, 0), api.ErrArg)
	l, e := x.Find(named(1), api.Place{}, 1, 0)
	s, f := x.Link(named(1), "", api.Place{}, 0)
	if len(l) != 0 || e != api.ErrArg || s != "" || f != api.ErrArg || len(x.Names(0)) != 0 || len(x.Nodes(named(1), 0)) != 0 || x.Len(0) != 0 {
		t.Errorf("a nil table has something")
	}
}

// R3: what is answered is nobody else's.
func TestListsAreNotShared(t *testing.T) {
	x, a := New(2), named(1)
	announce(t, x, 0, note(a, 3, 1, 9), note(a, 4, 2, 9))
	unchanged(t, "what is done to answers", x, func() {
		clear(x.Nodes(a, 0))
		clear(x.Names(0))
		l, _ := x.Find(a, api.Place{}, 2, 0)
		clear(l)
	})
	l := x.Nodes(a, 0)
	announce(t, x, 0, note(a, 3, 77, 9))
	if l[0] != note(a, 3, 1, 9) {
		t.Errorf("what was answered is changed: %v", l)
	}
}
