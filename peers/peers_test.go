package peers

import (
	"math"
	"slices"
	"strings"
	"testing"

	"mosaic/api"
)

const (
	top  = api.MaxPlace
	last = api.MaxTick
	most = api.MaxBytes
)

func place() api.Place {
	return api.Place{X: 3, Y: -4}
}

// wrongNodes are no peers' numbers, wrongTimes no times, wrongPlaces may not be.
func wrongNodes() []int {
	return []int{0, -1, 16, 17, 256 + 1, 1<<32 + 1, math.MaxInt, math.MinInt}
}

func wrongTimes() []int {
	return []int{-1, -2, last + 1, last + 2, math.MaxInt, math.MinInt}
}

func wrongPlaces() []api.Place {
	return []api.Place{{X: top + 1}, {X: -top - 1}, {Y: top + 1}, {Y: -top - 1}, {X: math.MaxInt}, {Y: math.MinInt}}
}

// need asks for an answer of a call.
func need(t *testing.T, what string, got, want api.Errno) {
	t.Helper()
	if got != want {
		t.Errorf("%s: %v, want %v", what, got, want)
	}
}

// full is a table of room 3 with the peers 2, 9 and 15, and with 4 and 7 banned.
func full(t *testing.T) *Table {
	t.Helper()
	x := New(3, 10)
	for _, node := range []int{9, 2, 15} {
		need(t, "Meet", x.Meet(node, place(), 5), api.OK)
	}
	need(t, "Ban", x.Ban(4), api.OK)
	need(t, "Ban", x.Ban(7), api.OK)
	return x
}

// state is all that calls tell of a table.
func state(x *Table) ([]api.Peer, [20]bool) {
	var banned [20]bool
	for node := range banned {
		banned[node] = x.Banned(node)
	}
	return x.List(), banned
}

// unchanged asks that what is done changes nothing.
func unchanged(t *testing.T, what string, x *Table, do func()) {
	t.Helper()
	l, banned := state(x)
	do()
	if now, then := state(x); !slices.Equal(now, l) || then != banned {
		t.Errorf("%s has changed something: %v, it was %v", what, now, l)
	}
}

// 18.1: of which rooms and timeouts there are tables.
func TestNew(t *testing.T) {
	for _, room := range []int{1, 2, 14, 15} {
		for _, timeout := range []int{1, 2, last - 1, last} {
			x := New(room, timeout)
			if x == nil || x.Len() != 0 || len(x.List()) != 0 {
				t.Errorf("New(%d, %d): %v", room, timeout, x)
			}
		}
	}
	for _, n := range []int{0, -1, math.MinInt, math.MaxInt, last + 1} {
		if New(n, 1) != nil || New(1, n) != nil {
			t.Errorf("there is a table of %d", n)
		}
	}
	if New(16, 1) != nil || New(1<<32+1, 1) != nil || New(16, 0) != nil {
		t.Errorf("there is a table of too much room")
	}
}

// The chapter's example.
func TestExample(t *testing.T) {
	x := New(1, 1)
	need(t, "Meet 3", x.Meet(3, place(), 0), api.OK)
	need(t, "Meet 4", x.Meet(4, place(), 0), api.ErrFull)
	need(t, "Ban 3", x.Ban(3), api.OK)
	need(t, "Meet 4", x.Meet(4, place(), 0), api.OK)
	need(t, "Meet 3", x.Meet(3, place(), 0), api.ErrBan)
}

// 18.1: all that may be met, at its edges, is there, as the chapter says.
func TestMeet(t *testing.T) {
	for node := 1; node <= 15; node++ {
		for _, at := range []api.Place{{}, {X: top, Y: -top}, {X: -top, Y: top}, {X: 7, Y: 8}} {
			for _, now := range []int{0, 1, last - 1, last} {
				x := New(1, 1)
				need(t, "Meet", x.Meet(node, at, now), api.OK)
				if p, is := x.Get(node); !is || p != (api.Peer{Node: node, Place: at, Seen: now}) {
					t.Errorf("Get(%d) = %v, %v", node, p, is)
				}
			}
		}
	}
}

// 18.1: what may not be met.
func TestMeetOfWrong(t *testing.T) {
	x := full(t)
	unchanged(t, "a wrong Meet", x, func() {
		for _, node := range wrongNodes() {
			need(t, "Meet of no peer", x.Meet(node, place(), 1), api.ErrArg)
		}
		for _, node := range []int{1, 2, 4} {
			for _, at := range wrongPlaces() {
				need(t, "Meet at no place", x.Meet(node, at, 1), api.ErrArg)
			}
			for _, now := range wrongTimes() {
				need(t, "Meet at no time", x.Meet(node, place(), now), api.ErrArg)
			}
		}
	})
}

// 18.1: ErrBan, ErrThere, ErrFull, in this order.
func TestMeetErrorsInOrder(t *testing.T) {
	x := full(t)
	unchanged(t, "a Meet that is answered by an error", x, func() {
		need(t, "one who was banned, and it is full", x.Meet(4, place(), 1), api.ErrBan)
		need(t, "one who is there, and it is full", x.Meet(9, api.Place{}, 99), api.ErrThere)
		need(t, "another one", x.Meet(1, place(), 1), api.ErrFull)
	})
	x.Leave(2)
	need(t, "one who is there", x.Meet(9, place(), 1), api.ErrThere)
	need(t, "one who was banned", x.Meet(7, place(), 1), api.ErrBan)
	need(t, "another one", x.Meet(1, place(), 1), api.OK)
}

// 18.1: one who comes again is as one who comes for the first time.
func TestMeetAgain(t *testing.T) {
	for i, goes := range []func(x *Table){
		func(x *Table) { x.Leave(9) },
		func(x *Table) { x.Expire(100) },
	} {
		x := full(t)
		x.SetHave(9, "ab")
		x.SetWants(9, true)
		x.SetOpen(9, true)
		x.SetOpens(9, true)
		x.Count(9, 5)
		x.Roll()
		x.Count(9, 6)
		goes(x)
		if p, is := x.Get(9); is || p != (api.Peer{}) {
			t.Errorf("%d: who is gone is there: %v", i, p)
		}
		need(t, "Meet", x.Meet(9, api.Place{Y: 1}, 3), api.OK)
		if p, _ := x.Get(9); p != (api.Peer{Node: 9, Place: api.Place{Y: 1}, Seen: 3}) {
			t.Errorf("%d: who came again is %v", i, p)
		}
	}
}

// 18.2: Seen grows alone.
func TestHear(t *testing.T) {
	x := full(t)
	for _, y := range []struct{ now, seen int }{{0, 5}, {4, 5}, {5, 5}, {6, 6}, {5, 6}, {1000, 1000}, {0, 1000}, {last, last}, {last - 1, last}} {
		need(t, "Hear", x.Hear(9, y.now), api.OK)
		if p, _ := x.Get(9); p != (api.Peer{Node: 9, Place: place(), Seen: y.seen}) {
			t.Errorf("heard at %d: %v", y.now, p)
		}
		if p, _ := x.Get(2); p.Seen != 5 {
			t.Errorf("another one was heard at %d", p.Seen)
		}
	}
}

// 18.2: what is not heard; no time is told ahead of nobody.
func TestHearOfWrong(t *testing.T) {
	x := full(t)
	unchanged(t, "a wrong Hear", x, func() {
		for _, node := range append(wrongNodes(), 1, 4, 9) {
			for _, now := range wrongTimes() {
				need(t, "Hear at no time", x.Hear(node, now), api.ErrArg)
			}
			if node != 9 {
				need(t, "Hear of nobody", x.Hear(node, 7), api.ErrNone)
			}
		}
	})
}

// 18.2: who leaves is gone, and may come again.
func TestLeave(t *testing.T) {
	x := full(t)
	unchanged(t, "a Leave of nobody", x, func() {
		for _, node := range append(wrongNodes(), 1, 4, 7, 14) {
			need(t, "Leave of nobody", x.Leave(node), api.ErrNone)
		}
	})
	need(t, "Leave", x.Leave(9), api.OK)
	need(t, "Leave", x.Leave(9), api.ErrNone)
	if _, is := x.Get(9); is || x.Banned(9) || x.Len() != 2 {
		t.Errorf("who left is there, or banned: %v", x.List())
	}
	need(t, "Meet", x.Meet(9, place(), 1), api.OK)
}

// 18.2: who is banned is gone for ever, whether he was there or not, and once or twice.
func TestBan(t *testing.T) {
	x := full(t)
	unchanged(t, "a Ban of no peer", x, func() {
		for _, node := range wrongNodes() {
			need(t, "Ban of no peer", x.Ban(node), api.ErrArg)
		}
	})
	for _, node := range []int{9, 9, 4, 1, 15} {
		need(t, "Ban", x.Ban(node), api.OK)
		if _, is := x.Get(node); is || !x.Banned(node) {
			t.Errorf("%d was banned: there %v, banned %v", node, is, x.Banned(node))
		}
		need(t, "Meet", x.Meet(node, place(), 1), api.ErrBan)
		need(t, "Hear", x.Hear(node, 1), api.ErrNone)
		need(t, "Leave", x.Leave(node), api.ErrNone)
		need(t, "SetWants", x.SetWants(node, true), api.ErrNone)
	}
	_, banned := state(x)
	if want := [20]bool{1: true, 4: true, 7: true, 9: true, 15: true}; banned != want {
		t.Errorf("banned are %v", banned)
	}
	if l := x.List(); len(l) != 1 || l[0].Node != 2 {
		t.Errorf("there are %v", l)
	}
}

// 18.2: who was heard just timeout ago stays, who was heard longer ago goes.
func TestExpire(t *testing.T) {
	for _, y := range []struct {
		timeout, seen, now int
		goes               bool
	}{{1, 0, 0, false}, {1, 0, 1, false}, {1, 0, 2, true}, {1, 5, 0, false}, {10, 7, 17, false}, {10, 7, 18, true}, {last, 0, last, false}, {last - 1, 0, last, true}, {last - 1, 1, last, false}, {1, last, last, false}, {1, last, 0, false}, {1, last - 2, last, true}} {
		x := New(15, y.timeout)
		x.Meet(3, place(), y.seen)
		l := x.Expire(y.now)
		if _, is := x.Get(3); is == y.goes || (len(l) == 1) != y.goes {
			t.Errorf("seen %d, timeout %d, at %d: %v, there %v", y.seen, y.timeout, y.now, l, is)
		}
	}
}

// 18.2: those who go are told by their numbers, once; nobody goes at no time.
func TestExpireOfMany(t *testing.T) {
	x := New(15, 10)
	for _, node := range []int{15, 1, 7, 3, 12} {
		x.Meet(node, place(), node)
	}
	unchanged(t, "Expire at no time", x, func() {
		for _, now := range wrongTimes() {
			if l := x.Expire(now); len(l) != 0 {
				t.Errorf("Expire(%d) = %v", now, l)
			}
		}
	})
	x.Hear(3, 14)
	for _, y := range []struct {
		now  int
		want []int
	}{{11, nil}, {22, []int{1, 7}}, {22, nil}, {5, nil}, {1000, []int{3, 12, 15}}, {1000, nil}} {
		if l := x.Expire(y.now); !slices.Equal(l, y.want) {
			t.Errorf("Expire(%d) = %v, want %v", y.now, l, y.want)
		}
	}
	if x.Len() != 0 || x.Banned(1) || x.Meet(1, place(), 0) != api.OK {
		t.Errorf("who went can not come again")
	}
}

// 18.3: each of them sets what it says, there and back, and nothing else.
func TestSet(t *testing.T) {
	x := full(t)
	want := api.Peer{Node: 9, Place: place(), Seen: 5}
	check := func(what string, e api.Errno) {
		t.Helper()
		need(t, what, e, api.OK)
		if p, _ := x.Get(9); p != want {
			t.Errorf("%s: %v, want %v", what, p, want)
		}
	}
	for _, on := range []bool{true, true, false, false, true} {
		want.Wants = on
		check("SetWants", x.SetWants(9, on))
		want.Open = on
		check("SetOpen", x.SetOpen(9, on))
		want.Opens = on
		check("SetOpens", x.SetOpens(9, on))
	}
	for _, have := range []string{"a", strings.Repeat("\xff", 19), strings.Repeat("\x00", 20), "", "xy"} {
		want.Have = have
		check("SetHave", x.SetHave(9, have))
	}
	for _, node := range []int{2, 15} {
		if p, _ := x.Get(node); p != (api.Peer{Node: node, Place: place(), Seen: 5}) {
			t.Errorf("another one is %v", p)
		}
	}
}

// 18.3: sets that are too long, ahead of nobody; then nobody.
func TestSetOfWrong(t *testing.T) {
	x := full(t)
	unchanged(t, "a wrong Set", x, func() {
		for _, node := range append(wrongNodes(), 1, 4, 9) {
			for _, long := range []int{21, 22, 256, 1 << 16} {
				need(t, "SetHave of too much", x.SetHave(node, strings.Repeat("a", long)), api.ErrArg)
			}
			for _, n := range []int{-1, most + 1, math.MaxInt, math.MinInt} {
				need(t, "Count of too much", x.Count(node, n), api.ErrArg)
			}
			if node == 9 {
				continue
			}
			need(t, "SetHave of nobody", x.SetHave(node, "a"), api.ErrNone)
			need(t, "SetWants of nobody", x.SetWants(node, true), api.ErrNone)
			need(t, "SetOpen of nobody", x.SetOpen(node, true), api.ErrNone)
			need(t, "SetOpens of nobody", x.SetOpens(node, true), api.ErrNone)
			need(t, "Count of nobody", x.Count(node, 1), api.ErrNone)
		}
	})
}

// 18.3: counts grow up to their limit; Roll moves those of all peers.
func TestCountAndRoll(t *testing.T) {
	x := full(t)
	for _, y := range []struct{ n, now int }{{0, 0}, {5, 5}, {0, 5}, {1, 6}, {most - 7, most - 1}, {1, most}, {1, most}, {0, most}, {most, most}} {
		need(t, "Count", x.Count(9, y.n), api.OK)
		if p, _ := x.Get(9); p.Now != y.now || p.Rate != 0 {
			t.Errorf("behind %d: %d, %d, want %d", y.n, p.Now, p.Rate, y.now)
		}
	}
	x.Count(15, 44)
	for i, want := range [][3]int{{0, most, 44}, {7, 0, 0}, {0, 0, 0}} {
		x.Roll()
		for k, node := range []int{2, 9, 15} {
			if p, _ := x.Get(node); p != (api.Peer{Node: node, Place: place(), Seen: 5, Rate: want[k]}) {
				t.Errorf("behind Roll %d: %v, want %d", i, p, want[k])
			}
		}
		if i == 0 {
			x.Count(2, 7)
		}
	}
}

// 18.4: nobody, and what is told of all.
func TestTold(t *testing.T) {
	x := full(t)
	for _, node := range append(wrongNodes(), 1, 4, 7, 14) {
		if p, is := x.Get(node); is || p != (api.Peer{}) {
			t.Errorf("Get(%d) = %v, %v", node, p, is)
		}
		if x.Banned(node) != (node == 4 || node == 7) {
			t.Errorf("Banned(%d): %v", node, x.Banned(node))
		}
	}
	var numbers []int
	for _, p := range x.List() {
		numbers = append(numbers, p.Node)
		if q, is := x.Get(p.Node); !is || p != q {
			t.Errorf("List tells %v, Get %v", p, q)
		}
	}
	if !slices.Equal(numbers, []int{2, 9, 15}) || x.Len() != 3 {
		t.Errorf("List: %v, Len: %d", numbers, x.Len())
	}
}

// 18.4: a nil table.
func TestNil(t *testing.T) {
	var x *Table
	for i, e := range []api.Errno{x.Meet(1, place(), 1), x.Hear(1, 1), x.Leave(1), x.Ban(1), x.SetHave(1, ""), x.SetWants(1, true), x.SetOpen(1, true), x.SetOpens(1, true), x.Count(1, 1), x.Meet(0, place(), -1), x.Hear(0, -1), x.Leave(0), x.Ban(0), x.SetHave(0, strings.Repeat("a", 21)), x.Count(-1, -1)} {
		if e != api.ErrArg {
			t.Errorf("call %d: %v", i, e)
		}
	}
	x.Roll()
	p, is := x.Get(1)
	if is || p != (api.Peer{}) || len(x.List()) != 0 || len(x.Expire(last)) != 0 || x.Banned(1) || x.Len() != 0 {
		t.Errorf("a nil table has something")
	}
}

// R3: what is answered is nobody else's.
func TestListsAreNotShared(t *testing.T) {
	x := full(t)
	l := x.List()
	before := slices.Clone(l)
	clear(l)
	p, _ := x.Get(2)
	p.Wants = true
	if !slices.Equal(x.List(), before) {
		t.Errorf("what was answered is kept: %v", x.List())
	}
	x.SetWants(2, true)
	x.Count(2, 9)
	if l[0] != (api.Peer{}) || p.Now != 0 {
		t.Errorf("what was answered is changed: %v, %v", l[0], p)
	}
}
