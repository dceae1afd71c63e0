package node

import (
	"math"
	"slices"
	"strings"
	"testing"

	"mosaic/api"
	"mosaic/decoder"
	"mosaic/manifest"
	"mosaic/wire"
)

func ping() api.Msg {
	return api.Msg{Kind: api.MsgPing}
}

// falseProof is a proof that does not come to the root.
func falseProof(i int) api.Msg {
	return api.Msg{Kind: api.MsgProof, Num: i, Digest: strings.Repeat("x", 32)}
}

// 20.2: ErrArg, ErrBan, ErrForm, ErrNone, in this order; each is counted.
func TestTakeErrorsInOrder(t *testing.T) {
	n := fetching(t, config())
	meet(t, n, 4)
	say(t, n, 4, falseProof(0), api.ErrBad)
	unchanged(t, "what is wrong", n, func() {
		for _, text := range []string{"", junk, wire.Text(ping())} {
			for _, from := range []int{me, 0, -1, 16, 257, math.MaxInt, math.MinInt} {
				need(t, "Take of no peer", n.Take(from, text), api.ErrArg)
			}
			need(t, "Take of who was banned", n.Take(4, text), api.ErrBan)
		}
		for _, text := range []string{"", junk, "\x0a\x00", "\x0c", "\x00", strings.Repeat("x", 100000)} {
			need(t, "Take of no message", n.Take(3, text), api.ErrForm)
		}
		need(t, "Take of a stranger", n.Take(3, wire.Text(ping())), api.ErrNone)
	})
	if c := counts(n); c != [12]int{api.ErrArg: 21, api.ErrBan: 3, api.ErrForm: 6, api.ErrNone: 1, api.ErrBad: 1} {
		t.Errorf("counts: %v", c)
	}
	n = idle(t, config())
	unchanged(t, "what an idle node takes", n, func() {
		need(t, "Take of no peer", n.Take(0, junk), api.ErrArg)
		need(t, "Take of no message", n.Take(3, junk), api.ErrForm)
		need(t, "Take", n.Take(3, wire.Text(ping())), api.ErrNone)
		need(t, "Take", n.Take(3, wire.Text(hello(t, place()))), api.ErrNone)
	})
	if c := counts(n); c != [12]int{api.ErrArg: 1, api.ErrForm: 1, api.ErrNone: 2} {
		t.Errorf("counts: %v", c)
	}
}

// everything is a message of each kind but MsgHello, all of which say something.
func everything(t *testing.T) []api.Msg {
	m, _ := published(t)
	return []api.Msg{have(t, 1), {Kind: api.MsgWant, On: true}, {Kind: api.MsgChoke}, {Kind: api.MsgOpen}, one(t, 0), {Kind: api.MsgAsk, Num: 1}, proof(t, 1), {Kind: api.MsgOffer, M: m}, ping(), {Kind: api.MsgBye}}
}

// 20.2, 20.5: of strangers nothing but MsgHello is heard.
func TestStrangers(t *testing.T) {
	for _, n := range []*Node{owning(t, config()), fetching(t, config()), seeking(t, config())} {
		need(t, "Greet", n.Greet(3), api.OK) // a friend is no peer
		unchanged(t, "a stranger", n, func() {
			for _, m := range everything(t) {
				say(t, n, 3, m, api.ErrNone)
			}
		})
		if n.Drops(api.ErrNone) != 10 {
			t.Errorf("counts: %v", counts(n))
		}
	}
}

// 20.2: who greets is there, and is sent all that a node tells about itself.
func TestHello(t *testing.T) {
	full := set(t, 0, 1, 2, 3, 4, 5, 6)
	for i, n := range []*Node{owning(t, config()), fetching(t, config()), seeking(t, config())} {
		tick(t, n, 3)
		say(t, n, 5, hello(t, api.Place{X: -9, Y: api.MaxPlace}), api.OK)
		want := [][]to{about(t, 5, true, full, false), about(t, 5, true, set(t), true), about(t, 5, false, "", true)}[i]
		needOut(t, "the answer", n, append([]to{{5, hello(t, place())}}, want...)...)
		if l := n.Peers(); !slices.Equal(l, []api.Peer{{Node: 5, Place: api.Place{X: -9, Y: api.MaxPlace}, Seen: 3}}) {
			t.Errorf("peers: %v", l)
		}
	}
	n := fetching(t, config())
	meet(t, n, 5)
	give(t, n, 5, 0, 1, 2, 3)
	say(t, n, 6, hello(t, api.Place{}), api.OK)
	needOut(t, "the answer of one that is done", n, append([]to{{6, hello(t, place())}}, about(t, 6, true, n.Have(), false)...)...)
}

// 20.2: ErrBad of another name, ahead of all that Meet asks.
func TestHelloOfAnotherName(t *testing.T) {
	for _, n := range []*Node{owning(t, config()), fetching(t, config()), seeking(t, config())} {
		meet(t, n, 1, 2, 3, 4, 5)
		unchanged(t, "another name", n, func() {
			for _, from := range []int{1, 6} {
				say(t, n, from, api.Msg{Kind: api.MsgHello, Name: manifest.Name(other(t))}, api.ErrBad)
				say(t, n, from, api.Msg{Kind: api.MsgHello, Name: strings.Repeat("\x00", 32)}, api.ErrBad)
			}
			say(t, n, 6, hello(t, place()), api.ErrFull)
		})
		if c := counts(n); c != [12]int{api.ErrBad: 4, api.ErrFull: 1} {
			t.Errorf("counts: %v", c)
		}
		say(t, n, 1, api.Msg{Kind: api.MsgBye}, api.OK)
		say(t, n, 6, hello(t, place()), api.OK)
	}
}

// 20.2: who is there is answered once at a time, and stays where he is.
func TestHelloOfOneWhoIsThere(t *testing.T) {
	n := fetching(t, config())
	answer := append([]to{{5, hello(t, place())}}, about(t, 5, true, set(t), true)...)
	say(t, n, 5, hello(t, api.Place{X: 1}), api.OK)
	needOut(t, "the first one", n, answer...)
	say(t, n, 5, hello(t, api.Place{X: 2}), api.OK)
	needOut(t, "the second one", n)
	tick(t, n, 1)
	say(t, n, 5, hello(t, api.Place{X: 2}), api.OK)
	needOut(t, "at another time", n, answer...)
	say(t, n, 5, hello(t, api.Place{X: 2}), api.OK)
	needOut(t, "and then", n)
	if p := peer(t, n, 5); p != (api.Peer{Node: 5, Place: api.Place{X: 1}, Seen: 1}) {
		t.Errorf("peer: %v", p)
	}
	tick(t, n, 1)
	need(t, "Greet", n.Greet(5), api.OK)
	n.Out()
	say(t, n, 5, hello(t, api.Place{X: 2}), api.OK)
	needOut(t, "of one who was greeted", n)
	say(t, n, 5, api.Msg{Kind: api.MsgBye}, api.OK)
	say(t, n, 5, hello(t, api.Place{X: 3}), api.OK)
	needOut(t, "of one who was gone", n, answer...)
	if c := counts(n); c != [12]int{} {
		t.Errorf("counts: %v", c)
	}
}

// 20.2: one who was greeted at this time, and was not there, is answered.
func TestHelloOfAFriend(t *testing.T) {
	n := seeking(t, config())
	need(t, "Greet", n.Greet(5), api.OK)
	tick(t, n, 4)
	needOut(t, "friends", n, to{5, hello(t, place())}, to{5, hello(t, place())})
	say(t, n, 5, hello(t, api.Place{}), api.OK)
	needOut(t, "the answer", n, append([]to{{5, hello(t, place())}}, about(t, 5, false, "", true)...)...)
	say(t, n, 5, hello(t, api.Place{}), api.OK)
	needOut(t, "the second answer", n)
}

// 20.2: whoever is there is heard, also by what is wrong; but not by what is no message.
func TestHeard(t *testing.T) {
	n := owning(t, config())
	meet(t, n, 5, 6)
	l := append(everything(t)[:9], hello(t, place()), api.Msg{Kind: api.MsgHello, Name: strings.Repeat("x", 32)}, api.Msg{Kind: api.MsgHave})
	for i, m := range l {
		tick(t, n, 1)
		n.Take(5, wire.Text(m))
		if p := peer(t, n, 5); p.Seen != i+1 {
			t.Errorf("%v was not heard: %v", m, p)
		}
		need(t, "Take of no message", n.Take(6, junk), api.ErrForm)
	}
	if p := peer(t, n, 6); p.Seen != 0 {
		t.Errorf("what is no message was heard: %v", p)
	}
	n.Out()
}

// 20.2: a set of blocks is kept; while there is no manifest, whatever is told.
func TestHave(t *testing.T) {
	wrong := []string{"", "\x80", "\xff", "\x00\x00", "\x01\x00", strings.Repeat("x", 20)}
	for _, n := range []*Node{owning(t, config()), fetching(t, config())} {
		meet(t, n, 5, 6)
		for _, l := range [][]int{{}, {0}, {6}, {0, 1, 2, 3, 4, 5, 6}, {3, 5}} {
			say(t, n, 5, have(t, l...), api.OK)
			if p := peer(t, n, 5); p.Have != set(t, l...) {
				t.Errorf("peer: %v", p)
			}
		}
		unchanged(t, "what is no set", n, func() {
			for _, s := range wrong {
				say(t, n, 5, api.Msg{Kind: api.MsgHave, Have: s}, api.ErrForm)
			}
		})
		if n.Drops(api.ErrForm) != len(wrong) || peer(t, n, 6).Have != "" {
			t.Errorf("counts: %v", counts(n))
		}
		needOut(t, "MsgHave", n)
	}
	n := seeking(t, config())
	meet(t, n, 5)
	for _, s := range wrong {
		say(t, n, 5, api.Msg{Kind: api.MsgHave, Have: s}, api.OK)
		if p := peer(t, n, 5); p.Have != s {
			t.Errorf("peer: %v", p)
		}
	}
}

// 20.2: what is kept of a peer alone.
func TestSmallMessages(t *testing.T) {
	for _, n := range []*Node{owning(t, config()), fetching(t, config()), seeking(t, config())} {
		meet(t, n, 5, 6)
		for _, x := range []struct {
			m           api.Msg
			wants, open bool
		}{
			{api.Msg{Kind: api.MsgWant, On: true}, true, false},
			{api.Msg{Kind: api.MsgOpen}, true, true},
			{ping(), true, true},
			{api.Msg{Kind: api.MsgWant}, false, true},
			{api.Msg{Kind: api.MsgChoke}, false, false},
			{api.Msg{Kind: api.MsgChoke}, false, false},
			{ping(), false, false},
		} {
			say(t, n, 5, x.m, api.OK)
			if p := peer(t, n, 5); p != (api.Peer{Node: 5, Place: api.Place{X: 5}, Wants: x.wants, Opens: x.open}) {
				t.Errorf("behind %v: %v", x.m, p)
			}
		}
		say(t, n, 5, api.Msg{Kind: api.MsgBye}, api.OK)
		if l := n.Peers(); !slices.Equal(l, []api.Peer{{Node: 6, Place: api.Place{X: 6}}}) {
			t.Errorf("behind MsgBye: %v", l)
		}
		say(t, n, 5, api.Msg{Kind: api.MsgBye}, api.ErrNone)
		needOut(t, "small messages", n)
	}
}

// 20.2: a node that seeks fetches what it is offered, and tells all its peers.
func TestOffer(t *testing.T) {
	m, _ := published(t)
	offer := api.Msg{Kind: api.MsgOffer, M: m}
	for _, n := range []*Node{owning(t, config()), fetching(t, config())} {
		meet(t, n, 5)
		unchanged(t, "an offer", n, func() {
			say(t, n, 5, offer, api.ErrThere)
			say(t, n, 5, api.Msg{Kind: api.MsgOffer, M: other(t)}, api.ErrThere)
		})
	}
	n := seeking(t, config())
	meet(t, n, 9, 5, 12)
	unchanged(t, "a false offer", n, func() { say(t, n, 5, api.Msg{Kind: api.MsgOffer, M: other(t)}, api.ErrBad) })
	say(t, n, 5, offer, api.OK)
	needOut(t, "MsgOffer", n, slices.Concat(about(t, 5, true, set(t), true), about(t, 9, true, set(t), true), about(t, 12, true, set(t), true))...)
	if k, is := n.Manifest(); k != m || !is || n.Owns() || n.Done() {
		t.Errorf("Manifest: %v", k)
	}
	say(t, n, 5, offer, api.ErrThere)
	give(t, n, 5, 0)
}

// 20.2: check blocks of a node that does not fetch, or has all.
func TestCheckIsThere(t *testing.T) {
	for _, n := range []*Node{owning(t, config()), seeking(t, config())} {
		meet(t, n, 5)
		unchanged(t, "a check block", n, func() {
			say(t, n, 5, one(t, 0), api.ErrThere)
			say(t, n, 5, lie(0), api.ErrThere)
			say(t, n, 5, proof(t, 0), api.ErrThere)
			say(t, n, 5, falseProof(0), api.ErrThere)
		})
	}
	n := fetching(t, config())
	meet(t, n, 5)
	give(t, n, 5, 0, 1, 2, 3)
	if n.Have() == set(t, 0, 1, 2, 3, 4, 5, 6) || !n.Done() {
		t.Fatalf("it has %x", n.Have())
	}
	say(t, n, 5, check(t, api.Head{Seed: 3}), api.OK) // done, but not with all blocks
	for i := range all {
		n.Take(5, wire.Text(proof(t, i)))
		n.Take(5, wire.Text(one(t, i)))
	}
	n.Out()
	if n.Have() != set(t, 0, 1, 2, 3, 4, 5, 6) {
		t.Fatalf("it has %x", n.Have())
	}
	unchanged(t, "a check block", n, func() {
		say(t, n, 5, one(t, 0), api.ErrThere)
		say(t, n, 5, check(t, api.Head{Seed: 77}), api.ErrThere)
	})
}

// 20.2: the decoder's errors; the bytes of what it takes are counted, and no others.
func TestCheck(t *testing.T) {
	n := fetching(t, config())
	meet(t, n, 5, 6)
	say(t, n, 5, check(t, api.Head{Seed: 1}), api.OK)
	unchanged(t, "a wrong check block", n, func() {
		say(t, n, 5, check(t, api.Head{Seed: 1}), api.ErrThere)
		say(t, n, 5, api.Msg{Kind: api.MsgCheck, Head: api.Head{Mode: api.ModeOne, Seed: all}, Data: "xyz"}, api.ErrForm)
		say(t, n, 5, api.Msg{Kind: api.MsgCheck, Head: api.Head{Mode: api.ModeSome, Have: set(t)}, Data: "xyz"}, api.ErrForm)
		say(t, n, 5, api.Msg{Kind: api.MsgCheck, Head: api.Head{Seed: 2}, Data: "xy"}, api.ErrBad)
	})
	if n.Banned(5) || peer(t, n, 5).Now != 3 || peer(t, n, 6).Now != 0 {
		t.Errorf("peers: %v", n.Peers())
	}
	say(t, n, 6, check(t, api.Head{Seed: 1}), api.OK)
	say(t, n, 5, check(t, api.Head{Seed: 9}), api.OK)
	if n.Kept() != 3 || peer(t, n, 5).Now != 6 || peer(t, n, 6).Now != 3 {
		t.Errorf("%d are kept, peers: %v", n.Kept(), n.Peers())
	}
	needOut(t, "check blocks that verify nothing", n)
}

// 20.2: of a peer Quota equations are kept: the first one goes, also where the next one is wrong then.
func TestQuota(t *testing.T) {
	c := config()
	c.Quota = 3
	n := fetching(t, c)
	meet(t, n, 5, 6)
	m, _ := published(t)
	beside := decoder.New(m, 45)
	add := func(from int, seed int) {
		t.Helper()
		x := check(t, api.Head{Seed: seed})
		say(t, n, from, x, api.OK)
		need(t, "Add", beside.Add(from, x.Head, x.Data), api.OK)
	}
	for seed := 1; seed <= 3; seed++ {
		add(5, seed)
		add(6, seed)
	}
	for seed := 4; seed <= 6; seed++ {
		need(t, "Evict", beside.Evict(5), api.OK)
		add(5, seed)
		if n.Kept() != 6 {
			t.Fatalf("%d are kept", n.Kept())
		}
	}
	say(t, n, 5, check(t, api.Head{Seed: 6}), api.ErrThere)
	if n.Kept() != 5 {
		t.Errorf("behind one that is there: %d are kept", n.Kept())
	}
	say(t, n, 5, check(t, api.Head{Seed: 4}), api.OK) // it had gone
	say(t, n, 5, api.Msg{Kind: api.MsgCheck, Head: api.Head{Mode: api.ModeOne, Seed: all}, Data: "xyz"}, api.ErrForm)
	if n.Kept() != 5 {
		t.Errorf("behind one that may not be: %d are kept", n.Kept())
	}
	say(t, n, 5, check(t, api.Head{Seed: 5}), api.OK) // it was the first one then
	if n.Kept() != 6 || beside.Kept() != 6 {
		t.Errorf("%d are kept, %d beside it", n.Kept(), beside.Kept())
	}
}

// 20.2: all peers may have their quota at once.
func TestQuotaOfAll(t *testing.T) {
	c := config()
	c.Room, c.Quota, c.Out = 15, 26, 300
	n := fetching(t, c)
	for from := 1; from <= 15; from++ {
		if from == me {
			continue
		}
		meet(t, n, from)
		for seed := range 40 {
			// none of these lets a block be guessed: two blocks each, of the same two
			h := api.Head{Mode: api.ModeSome, Have: set(t, 0, 1), Seed: seed}
			say(t, n, from, check(t, h), api.OK)
		}
	}
	if n.Kept() > 14*26 || n.Drops(api.ErrFull) != 0 {
		t.Errorf("%d are kept; counts: %v", n.Kept(), counts(n))
	}
	for _, p := range n.Peers() {
		if n.decoder.KeptOf(p.Node) != 26 {
			t.Errorf("%d of %d are kept", n.decoder.KeptOf(p.Node), p.Node)
		}
	}
}

// 20.2: a proof that is asked for is sent, if it is had.
func TestAsk(t *testing.T) {
	n := owning(t, config())
	meet(t, n, 5)
	for i := range all {
		say(t, n, 5, api.Msg{Kind: api.MsgAsk, Num: i}, api.OK)
		needOut(t, "MsgAsk", n, to{5, proof(t, i)})
	}
	f := fetching(t, config())
	s := seeking(t, config())
	meet(t, f, 5, 6)
	meet(t, s, 5)
	say(t, f, 6, proof(t, 3), api.OK)
	say(t, f, 5, api.Msg{Kind: api.MsgAsk, Num: 3}, api.OK)
	needOut(t, "MsgAsk", f, to{5, proof(t, 3)})
	for _, x := range []*Node{n, f, s} {
		unchanged(t, "MsgAsk of what is not had", x, func() {
			for _, i := range []int{all, all + 1, api.MaxAll - 1} {
				say(t, x, 5, api.Msg{Kind: api.MsgAsk, Num: i}, api.ErrNone)
			}
			if x != n {
				say(t, x, 5, api.Msg{Kind: api.MsgAsk, Num: 2}, api.ErrNone)
			}
		})
	}
}

// 20.2: the decoder's Learn; ErrBad alone bans.
func TestProof(t *testing.T) {
	n := fetching(t, config())
	meet(t, n, 5, 6, 8)
	say(t, n, 5, proof(t, 3), api.OK)
	unchanged(t, "a proof that is there, or of no block", n, func() {
		say(t, n, 6, proof(t, 3), api.ErrThere)
		say(t, n, 6, falseProof(3), api.ErrThere)
		say(t, n, 6, falseProof(all), api.ErrArg)
	})
	if n.Banned(6) || n.Drops(api.ErrArg) != 1 {
		t.Errorf("banned: %v, counts: %v", n.Banned(6), counts(n))
	}
	say(t, n, 6, lie(0), api.OK)
	say(t, n, 6, falseProof(2), api.ErrBad)
	if !n.Banned(6) || len(n.Peers()) != 2 || n.Kept() != 1 {
		t.Errorf("banned: %v, peers: %v, %d are kept", n.Banned(6), n.Peers(), n.Kept())
	}
	unchanged(t, "who was banned", n, func() {
		for _, m := range append(everything(t), hello(t, place())) {
			say(t, n, 6, m, api.ErrBan)
		}
	})
	wrong := proof(t, 2)
	wrong.Path[0] = strings.Repeat("x", 32)
	say(t, n, 8, wrong, api.ErrBad)
	if !n.Banned(8) || n.Banned(5) || n.Drops(api.ErrBan) != 11 {
		t.Errorf("banned: %v, counts: %v", n.Banned(8), counts(n))
	}
	needOut(t, "proofs", n)
}

// 20.2: who sent two false blocks is banned, whoever's message it is that shows it.
func TestBannedByTheDecoder(t *testing.T) {
	n := fetching(t, config())
	meet(t, n, 4, 5)
	say(t, n, 4, lie(0), api.OK)
	say(t, n, 4, lie(1), api.OK)
	say(t, n, 5, proof(t, 0), api.OK)
	if n.Banned(4) || n.Kept() != 1 {
		t.Errorf("banned with one blame; %d are kept", n.Kept())
	}
	say(t, n, 5, proof(t, 1), api.OK)
	if !n.Banned(4) || n.Banned(5) || n.Kept() != 0 || len(n.Peers()) != 1 {
		t.Errorf("not banned with two blames; peers: %v, %d are kept", n.Peers(), n.Kept())
	}
	need(t, "Take", n.Take(4, wire.Text(ping())), api.ErrBan)
	n = fetching(t, config())
	meet(t, n, 4, 5)
	say(t, n, 5, proof(t, 0), api.OK)
	say(t, n, 5, proof(t, 1), api.OK)
	say(t, n, 4, lie(0), api.OK)
	say(t, n, 4, lie(1), api.OK)
	if !n.Banned(4) || n.Banned(5) {
		t.Errorf("not banned by a check block")
	}
	needOut(t, "lies", n)
}

// 20.2: when more blocks are verified, all peers are told so, and they alone.
func TestHaveIsTold(t *testing.T) {
	n := fetching(t, config())
	need(t, "Greet", n.Greet(11), api.OK)
	meet(t, n, 9, 3, 4)
	toAll := func(l ...int) []to {
		return []to{{3, have(t, l...)}, {4, have(t, l...)}, {9, have(t, l...)}}
	}
	say(t, n, 9, one(t, 1), api.OK)
	needOut(t, "a guess", n)
	say(t, n, 4, proof(t, 1), api.OK)
	needOut(t, "a proof behind a block", n, toAll(1)...)
	say(t, n, 3, proof(t, 2), api.OK)
	needOut(t, "a proof alone", n)
	say(t, n, 3, one(t, 2), api.OK)
	needOut(t, "a block behind a proof", n, toAll(1, 2)...)
	say(t, n, 9, one(t, 2), api.OK)
	needOut(t, "a block that is verified", n)
	// a lie shows, and another one's block is verified: who is banned is not told
	say(t, n, 3, lie(0), api.OK)
	say(t, n, 3, lie(3), api.OK)
	say(t, n, 4, one(t, 0), api.OK)
	say(t, n, 4, one(t, 3), api.OK)
	say(t, n, 4, proof(t, 0), api.OK)
	needOut(t, "the first blame", n, toAll(0, 1, 2)...)
	say(t, n, 4, proof(t, 3), api.OK)
	needOut(t, "the second blame", n, to{4, have(t, 0, 1, 2, 3)}, to{9, have(t, 0, 1, 2, 3)})
}

// 20.1, 20.2: what has no room is dropped, and counted; the first ones stay.
func TestOutIsFull(t *testing.T) {
	c := config()
	c.Out = 3
	n := fetching(t, c)
	say(t, n, 5, hello(t, api.Place{}), api.OK)
	say(t, n, 6, hello(t, api.Place{}), api.OK)
	if n.Drops(api.ErrFull) != 5 {
		t.Errorf("counts: %v", counts(n))
	}
	needOut(t, "what has room", n, append([]to{{5, hello(t, place())}}, about(t, 5, true, set(t), true)[:2]...)...)
	say(t, n, 6, hello(t, api.Place{}), api.OK)
	needOut(t, "who was sent MsgHello, which was dropped", n)
	need(t, "Greet", n.Greet(6), api.OK)
	needOut(t, "there is room again", n, to{6, hello(t, place())})
	if n.Drops(api.ErrFull) != 5 || len(n.Peers()) != 2 {
		t.Errorf("counts: %v, peers: %v", counts(n), n.Peers())
	}
}
