package node

import (
	"math"
	"slices"
	"testing"

	"mosaic/api"
	"mosaic/bits"
	"mosaic/inner"
	"mosaic/wire"
)

func wants() api.Msg {
	return api.Msg{Kind: api.MsgWant, On: true}
}

func opens() api.Msg {
	return api.Msg{Kind: api.MsgOpen}
}

func chokes() api.Msg {
	return api.Msg{Kind: api.MsgChoke}
}

func ask(i int) api.Msg {
	return api.Msg{Kind: api.MsgAsk, Num: i}
}

// 20.3: ErrArg, ErrOver, ErrNone; none is counted, and the time stays.
func TestTickErrors(t *testing.T) {
	for _, n := range []*Node{owning(t, config()), idle(t, config())} {
		uncounted(t, "a wrong Tick", n, func() {
			need(t, "Tick", n.Tick(-1), api.ErrArg)
			need(t, "Tick", n.Tick(math.MinInt), api.ErrArg)
			if !n.Owns() {
				need(t, "Tick of an idle one", n.Tick(0), api.ErrNone)
			}
		})
	}
	n := owning(t, config())
	meet(t, n, 5)
	n.time = api.MaxTick - 1
	need(t, "the last Tick", n.Tick(math.MaxInt), api.OK)
	if n.Time() != api.MaxTick || len(n.Peers()) != 0 {
		t.Errorf("time %d, peers %v", n.Time(), n.Peers())
	}
	uncounted(t, "a Tick behind the last one", n, func() {
		need(t, "Tick", n.Tick(0), api.ErrOver)
		need(t, "Tick", n.Tick(-1), api.ErrArg)
	})
}

// 20.3: the time goes on by one; between windows who is not open is sent nothing.
func TestTime(t *testing.T) {
	for _, n := range []*Node{owning(t, config()), fetching(t, config()), seeking(t, config())} {
		need(t, "Greet", n.Greet(9), api.OK)
		meet(t, n, 5, 6)
		say(t, n, 5, wants(), api.OK)
		for time := 1; time < 3*Window; time++ {
			need(t, "Tick", n.Tick(time), api.OK)
			if n.Time() != time {
				t.Errorf("time %d, want %d", n.Time(), time)
			}
			l := n.Out()
			if time == Window {
				say(t, n, 5, api.Msg{Kind: api.MsgBye}, api.OK)
			}
			if (len(l) > 0) != (time%Window == 0) {
				t.Errorf("at %d it sends %v", time, l)
			}
		}
	}
}

// 20.3: who was not heard goes, ahead of all that is sent.
func TestExpire(t *testing.T) {
	c := config()
	c.Timeout = 3
	n := owning(t, c)
	meet(t, n, 5, 6)
	say(t, n, 5, wants(), api.OK)
	tick(t, n, 1)
	say(t, n, 6, ping(), api.OK)
	tick(t, n, 2)
	if len(n.Peers()) != 2 {
		t.Errorf("peers at 3: %v", n.Peers())
	}
	n.Out()
	tick(t, n, 1)
	needOut(t, "at 4", n, about(t, 6, true, n.Have(), false)...)
	tick(t, n, 1)
	if len(n.Peers()) != 0 {
		t.Errorf("peers at 5: %v", n.Peers())
	}
	say(t, n, 5, ping(), api.ErrNone)
}

// 20.3: all that a window begins with, in its order.
func TestWindow(t *testing.T) {
	c := config()
	c.Slots, c.Room = 1, 10
	n := seeking(t, c)
	for _, node := range []int{11, 3, 13, 8} {
		need(t, "Greet", n.Greet(node), api.OK)
	}
	meet(t, n, 9, 3, 2, 8)
	for _, node := range []int{9, 3} {
		say(t, n, node, wants(), api.OK)
	}
	tick(t, n, 4)
	h := hello(t, place())
	tells := slices.Concat(about(t, 2, false, "", true), about(t, 3, false, "", true), about(t, 8, false, "", true), about(t, 9, false, "", true))
	needOut(t, "the first window", n, append([]to{{3, opens()}, {9, opens()}, {11, h}, {13, h}}, tells...)...)
	for node, open := range map[int]bool{2: false, 3: true, 8: false, 9: true} {
		if peer(t, n, node).Open != open {
			t.Errorf("%d is open: %v", node, !open)
		}
	}
	say(t, n, 9, api.Msg{Kind: api.MsgWant}, api.OK)
	say(t, n, 3, api.Msg{Kind: api.MsgWant}, api.OK)
	say(t, n, 8, wants(), api.OK)
	tick(t, n, 4)
	needOut(t, "the second window", n, append([]to{{8, opens()}, {3, chokes()}, {9, chokes()}, {11, h}, {13, h}}, tells...)...)
	tick(t, n, 4)
	needOut(t, "the third window", n, append([]to{{11, h}, {13, h}}, tells...)...)
}

// 20.3: a friend that was banned is not greeted; one that went is.
func TestFriends(t *testing.T) {
	n := fetching(t, config())
	for _, node := range []int{3, 4, 5} {
		need(t, "Greet", n.Greet(node), api.OK)
	}
	meet(t, n, 3, 4)
	say(t, n, 4, falseProof(0), api.ErrBad)
	say(t, n, 3, api.Msg{Kind: api.MsgBye}, api.OK)
	tick(t, n, 4)
	needOut(t, "a window", n, to{3, hello(t, place())}, to{5, hello(t, place())})
}

// 20.3: who sent most since the last window is chosen, and of the others the one that the lot draws; of one rate the nearest.
func TestChosen(t *testing.T) {
	c := config()
	c.Slots = 1
	n := fetching(t, c)
	meet(t, n, 2, 4, 5, 6)
	for _, node := range []int{2, 4, 5, 6} {
		say(t, n, node, wants(), api.OK)
	}
	open := func(what string, want ...int) {
		t.Helper()
		var l []int
		for _, p := range n.Peers() {
			if p.Open {
				l = append(l, p.Node)
			}
		}
		if !slices.Equal(l, want) {
			t.Errorf("%s: %v are open, want %v", what, l, want)
		}
	}
	next := func(lot int) {
		t.Helper()
		tick(t, n, 3)
		need(t, "Tick", n.Tick(lot), api.OK)
	}
	say(t, n, 6, check(t, api.Head{Seed: 1}), api.OK)
	open("ahead of the first window")
	next(1)
	open("6 has sent something, the lot draws 4", 4, 6)
	if p := peer(t, n, 6); p.Rate != 3 || p.Now != 0 {
		t.Errorf("peer: %v", p)
	}
	next(5)
	open("nobody has sent anything, 2 is nearest, the lot draws 6", 2, 6)
	say(t, n, 5, check(t, api.Head{Seed: 1}), api.OK)
	say(t, n, 5, check(t, api.Head{Seed: 2}), api.OK)
	say(t, n, 4, check(t, api.Head{Seed: 1}), api.OK)
	next(0)
	open("5 has sent most, the lot draws 2", 2, 5)
	needSlots := func() {
		for lot := range 9 {
			next(lot)
			count := 0
			for _, p := range n.Peers() {
				if p.Open {
					count++
				}
			}
			if count > 2 {
				t.Errorf("%d are open", count)
			}
		}
	}
	needSlots()
}

// opened is a node in which a peer is open behind the first window; all that it sends up to then is taken.
func opened(t *testing.T, n *Node, nodes ...int) {
	t.Helper()
	for _, node := range nodes {
		say(t, n, node, wants(), api.OK)
	}
	tick(t, n, Window)
	n.Out()
	for _, node := range nodes {
		if !peer(t, n, node).Open {
			t.Fatalf("%d is not open", node)
		}
	}
}

// onlyChecks are the check blocks that wait, by whom they are to; the others are let go.
func onlyChecks(t *testing.T, n *Node) []to {
	t.Helper()
	var l []to
	for _, g := range n.Out() {
		if m, e := wire.Read(g.Text); e == api.OK && m.Kind == api.MsgCheck {
			l = append(l, to{g.To, m})
		}
	}
	return l
}

// needChecks asks for just these check blocks.
func needChecks(t *testing.T, n *Node, want ...to) {
	t.Helper()
	l := onlyChecks(t, n)
	if !slices.EqualFunc(l, want, func(a, b to) bool { return a.node == b.node && wire.Same(a.m, b.m) }) {
		t.Errorf("at %d it sends %v, want %v", n.Time(), l, want)
	}
}

// 20.3: an owner's check blocks: at even times a block that the peer has not, at odd times one of all; the seed counts them all.
func TestChecksOfAnOwner(t *testing.T) {
	n := owning(t, config())
	meet(t, n, 5, 3, 9)
	say(t, n, 5, have(t, 0, 1, 4), api.OK)
	opened(t, n, 3, 5) // the time is 4: two check blocks were sent
	for _, want := range [][]to{
		{{3, check(t, api.Head{Seed: 2})}, {5, check(t, api.Head{Seed: 3})}}, // 5
		{{3, one(t, 3)}, {5, one(t, 6)}},                                     // 6: three by 7, three by 4: 2, 3, 5, 6
		{{3, check(t, api.Head{Seed: 6})}, {5, check(t, api.Head{Seed: 7})}}, // 7
		{{3, one(t, 4)}, {5, one(t, 2)}},                                     // 8
		{{3, check(t, api.Head{Seed: 10})}, {5, check(t, api.Head{Seed: 11})}},
		{{3, one(t, 5)}, {5, one(t, 3)}}, // 10
	} {
		tick(t, n, 1)
		needChecks(t, n, want...)
	}
	say(t, n, 5, have(t, 0, 1, 2, 3, 4, 5, 6), api.OK)
	tick(t, n, 1)
	needChecks(t, n, to{3, check(t, api.Head{Seed: 14})}, to{5, check(t, api.Head{Seed: 15})})
	tick(t, n, 1)
	needChecks(t, n, to{3, one(t, 6)}, to{5, check(t, api.Head{Seed: 17})}) // 5 lacks none
}

// 20.3: of a node that has some blocks: sums of these alone; of none nothing.
func TestChecksOfSome(t *testing.T) {
	n := fetching(t, config())
	meet(t, n, 5, 3)
	opened(t, n, 3, 5)
	tick(t, n, 3)
	needChecks(t, n)
	give(t, n, 5, 1, 2)
	if n.Have() != set(t, 1, 2) {
		t.Fatalf("it has %x", n.Have())
	}
	say(t, n, 3, have(t, 2), api.OK)
	some := func(seed int) api.Msg {
		return check(t, api.Head{Mode: api.ModeSome, Seed: seed, Have: set(t, 1, 2)})
	}
	tick(t, n, 1) // 8
	needChecks(t, n, to{3, one(t, 1)}, to{5, one(t, 1)})
	tick(t, n, 1)
	needChecks(t, n, to{3, some(2)}, to{5, some(3)})
	say(t, n, 3, have(t, 1, 2, 6), api.OK)
	tick(t, n, 1) // 10
	needChecks(t, n, to{3, some(4)}, to{5, one(t, 2)})
	// all message blocks are not all blocks
	give(t, n, 5, 0, 3)
	has := n.Have()
	tick(t, n, 1)
	needChecks(t, n, to{3, check(t, api.Head{Mode: api.ModeSome, Seed: 6, Have: has})}, to{5, check(t, api.Head{Mode: api.ModeSome, Seed: 7, Have: has})})
	for i := range all {
		n.Take(5, wire.Text(proof(t, i)))
		n.Take(5, wire.Text(one(t, i)))
	}
	n.Out()
	tick(t, n, 2) // 12, 13
	if l := onlyChecks(t, n); len(l) != 4 || !wire.Same(l[2].m, check(t, api.Head{Seed: 10})) {
		t.Errorf("with all blocks it sends %v", l)
	}
}

// 20.3: what a peer told ahead of the manifest may be of any length.
func TestChecksByAnySet(t *testing.T) {
	m, _ := published(t)
	n := seeking(t, config())
	meet(t, n, 3, 5, 6)
	say(t, n, 3, api.Msg{Kind: api.MsgHave, Have: "\xff\xff\xff\xff"}, api.OK)
	say(t, n, 5, api.Msg{Kind: api.MsgHave}, api.OK)
	say(t, n, 6, api.Msg{Kind: api.MsgOffer, M: m}, api.OK)
	opened(t, n, 3, 5)
	give(t, n, 6, 4)
	tick(t, n, 2)
	needChecks(t, n, to{3, check(t, api.Head{Mode: api.ModeSome, Seed: 0, Have: n.Have()})}, to{5, check(t, api.Head{Mode: api.ModeSome, Seed: 1, Have: n.Have()})},
		to{3, check(t, api.Head{Mode: api.ModeSome, Seed: 2, Have: n.Have()})}, to{5, one(t, bits.Nth(n.Have(), 3%bits.Count(n.Have())))})
}

// 20.3: check blocks come behind all that a window begins with, and are counted also where there is no room for them.
func TestChecksComeLast(t *testing.T) {
	c := config()
	c.Out = 5
	n := owning(t, c)
	meet(t, n, 5)
	say(t, n, 5, wants(), api.OK)
	tick(t, n, 4)
	needOut(t, "a window", n, append(append([]to{{5, opens()}}, about(t, 5, true, n.Have(), false)...), to{5, one(t, 2)})...)
	for range 5 {
		need(t, "Greet", n.Greet(9), api.OK)
	}
	tick(t, n, 1)
	if n.Drops(api.ErrFull) != 1 || len(n.Out()) != 5 {
		t.Errorf("counts: %v", counts(n))
	}
	tick(t, n, 2)
	needChecks(t, n, to{5, one(t, 3)}, to{5, check(t, api.Head{Seed: 3})})
}

// 20.3: for each block that the decoder asks for one of those that have it is asked, by distance and time; else one of all.
func TestAsks(t *testing.T) {
	n := fetching(t, config())
	for node, at := range map[int]api.Place{2: {X: 50}, 3: {X: 4, Y: -4}, 4: {X: 2, Y: -4}, 6: {X: 3, Y: -2}} { // from 3, -4: the order is 3, 4, 6, 2
		say(t, n, node, hello(t, at), api.OK)
	}
	say(t, n, 2, have(t, 1, 2), api.OK)
	say(t, n, 6, have(t, 2, 3), api.OK)
	say(t, n, 4, have(t, 2), api.OK)
	for _, i := range []int{2, 0, 1} {
		say(t, n, 3, one(t, i), api.OK)
	}
	n.Out()
	if l := n.decoder.Asks(); !slices.Equal(l, []int{0, 1, 2, 4}) { // 4 by a rule
		t.Fatalf("the decoder asks for %v", l)
	}
	nearest, having := []int{3, 4, 6, 2}, []int{4, 6, 2}
	for time := 1; time <= 11; time++ {
		tick(t, n, 1)
		want := []to{{nearest[time%4], ask(0)}, {2, ask(1)}, {having[time%3], ask(2)}, {nearest[time%4], ask(4)}}
		if time%Window == 0 {
			l := n.Out()
			for i, g := range l[len(l)-4:] {
				if g.To != want[i].node || g.Text != wire.Text(want[i].m) {
					t.Errorf("at %d it asks %v, want %v", time, g, want[i])
				}
			}
			continue
		}
		needOut(t, "asks", n, want...)
	}
	say(t, n, 3, proof(t, 1), api.OK)
	tick(t, n, 1)
	n.Out()
	tick(t, n, 1) // 13
	needOut(t, "asks of what is left", n, to{nearest[1], ask(0)}, to{having[1], ask(2)}, to{nearest[1], ask(4)})
}

// 20.3: who asks comes behind who sends; with nobody there nobody is asked.
func TestAsksComeLast(t *testing.T) {
	n := fetching(t, config())
	meet(t, n, 5)
	opened(t, n, 5)
	give(t, n, 5, 1)
	say(t, n, 5, one(t, 3), api.OK)
	n.Out()
	tick(t, n, 1)
	l := n.Out()
	asked := n.decoder.Asks()
	if len(l) != 1+len(asked) || len(asked) == 0 {
		t.Fatalf("it sends %v", l)
	}
	m, _ := published(t)
	first, e := wire.Read(l[0].Text)
	if e != api.OK || first.Kind != api.MsgCheck || !inner.Right(m, first.Head, n.Whole(), first.Data) {
		t.Errorf("first: %v, %v", first, e)
	}
	say(t, n, 5, api.Msg{Kind: api.MsgBye}, api.OK)
	tick(t, n, 2)
	needOut(t, "with nobody there", n)
}
