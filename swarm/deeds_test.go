package swarm

import (
	"math"
	"slices"
	"strings"
	"testing"

	"mosaic/api"
	"mosaic/merkle"
	"mosaic/wire"
)

// need asks for an answer of a call.
func need(t *testing.T, what string, got, want api.Errno) {
	t.Helper()
	if got != want {
		t.Errorf("%s: %v, want %v", what, got, want)
	}
}

// give gives a node all blocks and proofs, by the hand of one who greets it and goes.
func give(t *testing.T, x *Swarm, i int) {
	t.Helper()
	n, whole := x.Node(i), x.Node(1).Whole()
	const giver = 14
	need(t, "hello", n.Take(giver, hello(x)), api.OK)
	for num, s := range whole {
		path, _ := merkle.Path(whole, num)
		need(t, "proof", n.Take(giver, wire.Text(api.Msg{Kind: api.MsgProof, Num: num, Digest: merkle.Leaf(s), Path: path})), api.OK)
	}
	for num, s := range whole {
		n.Take(giver, wire.Text(api.Msg{Kind: api.MsgCheck, Head: api.Head{Mode: api.ModeOne, Seed: num}, Data: s}))
	}
	need(t, "bye", n.Take(giver, wire.Text(api.Msg{Kind: api.MsgBye})), api.OK)
	n.Out()
}

// 22.1: deeds of kinds that there are not.
func TestKinds(t *testing.T) {
	x := small(t)
	do(t, x, lie(3, 2, "text"), api.OK)
	unchanged(t, "no deed", x, func() {
		for _, kind := range []int{0, -1, 7, 8, 100, math.MaxInt, math.MinInt, 1<<32 + 1} {
			do(t, x, api.Deed{Kind: kind, Node: 1, To: 2}, api.ErrArg)
			do(t, x, api.Deed{Kind: kind, Node: 3, To: 2, Text: "text"}, api.ErrArg)
		}
	})
}

// 22.1: of nothing, and below 0, nothing comes, is lost or doubled.
func TestNothingUnderWay(t *testing.T) {
	x := small(t)
	for _, kind := range []int{api.DeedCome, api.DeedLose, api.DeedTwice} {
		unchanged(t, "nothing", x, func() {
			for _, i := range []int{0, 1, -1, math.MaxInt, math.MinInt} {
				do(t, x, api.Deed{Kind: kind, I: i}, api.ErrNone)
			}
		})
	}
	do(t, x, lie(3, 2, "text"), api.OK)
	for _, kind := range []int{api.DeedCome, api.DeedLose, api.DeedTwice} {
		unchanged(t, "below 0", x, func() {
			do(t, x, api.Deed{Kind: kind, I: -1}, api.ErrNone)
			do(t, x, api.Deed{Kind: kind, I: math.MinInt}, api.ErrNone)
		})
	}
}

// 22.1: a datagram comes: it is off the net, and its node has heard it, whatever it answers.
func TestCome(t *testing.T) {
	x := small(t)
	for _, d := range []api.Deed{lie(3, 2, "first"), lie(3, 4, hello(x)), lie(3, 1, "third")} {
		do(t, x, d, api.OK)
	}
	do(t, x, api.Deed{Kind: api.DeedCome, I: 3*5 + 1}, api.OK) // 4 answers: a greeting, what it has, that it wants some
	if p := x.Node(4).Peers(); len(p) != 1 || p[0].Node != 3 {
		t.Errorf("4 knows %v", p)
	}
	mails := x.Mails()
	if len(mails) != 5 || mails[0].Gram.Text != "first" || mails[1].Gram.Text != "third" || mails[2].ID != 4 || mails[2].Gram.From != 4 || mails[2].Gram.To != 3 {
		t.Errorf("%v are under way", mails)
	}
	do(t, x, api.Deed{Kind: api.DeedCome}, api.OK)
	do(t, x, api.Deed{Kind: api.DeedCome}, api.OK)
	if a, b := x.Node(2).Drops(api.ErrForm), x.Node(1).Drops(api.ErrForm); a != 1 || b != 1 {
		t.Errorf("%d and %d wrong datagrams were heard", a, b)
	}
	if len(x.Mails()) != 3 {
		t.Errorf("%v are under way", x.Mails())
	}
}

// 22.1: what is to a liar, or to no one of the swarm, is off the net when it comes.
func TestComeToNoNode(t *testing.T) {
	x := small(t)
	for to := 3; to <= api.MaxPeer; to++ {
		do(t, x, api.Deed{Kind: api.DeedGreet, Node: 2, To: to}, api.OK)
	}
	want := x.Mails()
	for i := range want {
		if want[i].Gram.To == 4 {
			want = slices.Delete(want, i, i+1)
			do(t, x, api.Deed{Kind: api.DeedLose, I: i}, api.OK)
			break
		}
	}
	for range 12 {
		do(t, x, api.Deed{Kind: api.DeedCome}, api.OK)
		want = want[1:]
		if !slices.Equal(x.Mails(), want) {
			t.Fatalf("%v are under way, want %v", x.Mails(), want)
		}
	}
	for _, i := range []int{1, 4} {
		if len(x.Node(i).Peers()) != 0 {
			t.Errorf("%d knows %v", i, x.Node(i).Peers())
		}
	}
}

// 22.1: what is lost does not come, and is not counted as what the net does not take.
func TestLose(t *testing.T) {
	x := small(t)
	for _, s := range []string{"a", "b", "c"} {
		do(t, x, lie(3, 2, s), api.OK)
	}
	do(t, x, api.Deed{Kind: api.DeedLose, I: 4}, api.OK)
	needGrams(t, "Lose", x, api.Gram{From: 3, To: 2, Text: "a"}, api.Gram{From: 3, To: 2, Text: "c"})
	do(t, x, api.Deed{Kind: api.DeedLose, I: 4}, api.OK)
	do(t, x, api.Deed{Kind: api.DeedLose, I: 4}, api.OK)
	if len(x.Mails()) != 0 || x.Lost() != 0 || x.Node(2).Drops(api.ErrForm) != 0 {
		t.Errorf("%v are under way, %d lost", x.Mails(), x.Lost())
	}
}

// 22.1: what is doubled comes twice, if there is room for it.
func TestTwice(t *testing.T) {
	x := small(t)
	do(t, x, lie(3, 2, "a"), api.OK)
	do(t, x, lie(3, 4, "b"), api.OK)
	do(t, x, api.Deed{Kind: api.DeedTwice, I: 2}, api.OK)
	a, b := api.Gram{From: 3, To: 2, Text: "a"}, api.Gram{From: 3, To: 4, Text: "b"}
	needGrams(t, "Twice", x, a, b, a)
	if len(x.Sent()) != 0 {
		t.Errorf("%v were sent", x.Sent())
	}
	fill(t, x, "c")
	unchanged(t, "no room", x, func() {
		do(t, x, api.Deed{Kind: api.DeedTwice, I: 2}, api.ErrFull)
		do(t, x, api.Deed{Kind: api.DeedTwice, I: -1}, api.ErrNone)
	})
}

// 22.1: DeedTick lets time go on for one node, with the lot I.
func TestTick(t *testing.T) {
	x := small(t)
	unchanged(t, "no node", x, func() {
		for _, i := range []int{0, 3, 5, 6, 7, -1, math.MaxInt, math.MinInt} {
			do(t, x, api.Deed{Kind: api.DeedTick, Node: i}, api.ErrArg)
			do(t, x, api.Deed{Kind: api.DeedTick, Node: i, I: -1}, api.ErrArg)
		}
		do(t, x, api.Deed{Kind: api.DeedTick, Node: 2, I: -1}, api.ErrArg)
	})
	do(t, x, api.Deed{Kind: api.DeedTick, Node: 2}, api.OK)
	do(t, x, api.Deed{Kind: api.DeedTick, Node: 2, I: math.MaxInt}, api.OK)
	do(t, x, api.Deed{Kind: api.DeedTick, Node: 4, I: 7, To: 9, Text: "x"}, api.OK)
	for i, want := range map[int]int{1: 0, 2: 2, 4: 1} {
		if got := x.Node(i).Time(); got != want {
			t.Errorf("the time of %d is %d, want %d", i, got, want)
		}
	}
}

// 22.1: the lot of a tick draws who is sent check blocks.
func TestTickLot(t *testing.T) {
	for lot := range 8 {
		s := setup(0, 1, 1, 1, 1)
		s.Config.Slots = 0
		x := made(t, s)
		for i := 2; i <= 5; i++ {
			do(t, x, api.Deed{Kind: api.DeedGreet, Node: i, To: 1}, api.OK)
		}
		for x.Do(api.Deed{Kind: api.DeedCome}) == api.OK {
		}
		for range 3 {
			do(t, x, api.Deed{Kind: api.DeedTick, Node: 1, I: 99}, api.OK)
		}
		do(t, x, api.Deed{Kind: api.DeedTick, Node: 1, I: lot}, api.OK)
		for _, p := range x.Node(1).Peers() {
			if p.Open != (p.Node == 2+lot%4) {
				t.Errorf("with the lot %d: %v", lot, p)
			}
		}
	}
}

// 22.1: DeedGreet lets a node greet another one.
func TestGreet(t *testing.T) {
	x := small(t)
	unchanged(t, "no node", x, func() {
		for _, i := range []int{0, 3, 5, 7, -1, math.MaxInt, math.MinInt} {
			do(t, x, api.Deed{Kind: api.DeedGreet, Node: i, To: 1}, api.ErrArg)
		}
		for _, to := range []int{2, 0, 16, -1, math.MaxInt} {
			do(t, x, api.Deed{Kind: api.DeedGreet, Node: 2, To: to}, api.ErrArg)
		}
	})
	do(t, x, api.Deed{Kind: api.DeedGreet, Node: 2, To: 1}, api.OK)
	do(t, x, api.Deed{Kind: api.DeedGreet, Node: 4, To: 3}, api.OK)
	do(t, x, api.Deed{Kind: api.DeedGreet, Node: 1, To: 15}, api.OK)
	grams := []api.Gram{{From: 2, To: 1}, {From: 4, To: 3}, {From: 1, To: 15}}
	for i, from := range []int{2, 4, 1} {
		y := small(t)
		y.Node(from).Greet(grams[i].To)
		grams[i] = y.Node(from).Out()[0]
	}
	needGrams(t, "Greet", x, grams...)
	if !slices.Equal(x.Sent(), grams) {
		t.Errorf("%v were sent, want %v", x.Sent(), grams)
	}
}

// 22.1: what a node's call answers is the deed's answer.
func TestGreetBanned(t *testing.T) {
	x := small(t)
	do(t, x, lie(3, 2, hello(x)), api.OK)
	do(t, x, lie(3, 2, wire.Text(api.Msg{Kind: api.MsgProof, Num: 0, Digest: strings.Repeat("d", 32)})), api.OK)
	do(t, x, api.Deed{Kind: api.DeedCome}, api.OK)
	do(t, x, api.Deed{Kind: api.DeedCome}, api.OK)
	if !x.Node(2).Banned(3) {
		t.Fatal("3 is not banned")
	}
	unchanged(t, "banned", x, func() {
		do(t, x, api.Deed{Kind: api.DeedGreet, Node: 2, To: 3}, api.ErrBan)
	})
}

// 22.1: a liar, and no one else, says what he likes, of himself.
func TestLie(t *testing.T) {
	x := small(t)
	unchanged(t, "no liar", x, func() {
		for _, i := range []int{0, 1, 2, 4, 5, 6, 7, 15, -1, math.MaxInt, math.MinInt} {
			do(t, x, lie(i, 2, "text"), api.ErrArg)
		}
		for _, to := range []int{3, 0, 16, -1, math.MaxInt} {
			do(t, x, lie(3, to, "text"), api.ErrArg)
		}
		do(t, x, lie(3, 2, strings.Repeat("x", 401)), api.ErrArg)
	})
	long := strings.Repeat("x", 400)
	do(t, x, lie(3, 2, long), api.OK)
	do(t, x, lie(3, 15, ""), api.OK)
	needGrams(t, "Lie", x, api.Gram{From: 3, To: 2, Text: long}, api.Gram{From: 3, To: 15})
	if len(x.Sent()) != 0 {
		t.Errorf("what a liar says is among what nodes had to send: %v", x.Sent())
	}
	fill(t, x, "text")
	unchanged(t, "no room", x, func() {
		do(t, x, lie(3, 2, "text"), api.ErrFull)
		do(t, x, lie(3, 3, "text"), api.ErrArg)
	})
}

// Words: behind each deed all nodes send what they have to send, by their numbers.
func TestSendsInOrder(t *testing.T) {
	x := small(t)
	for _, i := range []int{4, 2, 1} {
		need(t, "Greet", x.Node(i).Greet(13), api.OK)
		need(t, "Greet", x.Node(i).Greet(12), api.OK)
	}
	do(t, x, lie(3, 2, "text"), api.OK)
	var got []int
	for _, m := range x.Mails() {
		got = append(got, m.Gram.From, m.Gram.To)
	}
	if !slices.Equal(got, []int{3, 2, 1, 13, 1, 12, 2, 13, 2, 12, 4, 13, 4, 12}) {
		t.Errorf("from and to: %v", got)
	}
	for _, i := range []int{1, 2, 4} {
		if len(x.Node(i).Out()) != 0 {
			t.Errorf("%d has something left to send", i)
		}
	}
}

// 22.3: what the net does not take is lost, and counted, and was sent.
func TestLost(t *testing.T) {
	x := small(t)
	fill(t, x, "text")
	do(t, x, api.Deed{Kind: api.DeedLose}, api.OK)
	do(t, x, api.Deed{Kind: api.DeedGreet, Node: 2, To: 1}, api.OK)
	if x.Lost() != 0 || len(x.Sent()) != 1 || len(x.Mails()) != 600 {
		t.Errorf("%d lost, %d sent", x.Lost(), len(x.Sent()))
	}
	for i := range 5 {
		do(t, x, api.Deed{Kind: api.DeedGreet, Node: 2, To: 5 + i}, api.OK)
		if x.Lost() != i+1 || len(x.Sent()) != i+2 || x.Sent()[i+1].To != 5+i || len(x.Mails()) != 600 {
			t.Errorf("%d lost, %d sent", x.Lost(), len(x.Sent()))
		}
	}
}

// 22.3: of what was sent the first MaxSent are told.
func TestSentIsBounded(t *testing.T) {
	x := small(t)
	var want []api.Gram
	for i := range MaxSent + 50 {
		to := 5 + i%11
		y := x.Node(1 + i%2)
		y.Greet(to)
		do(t, x, api.Deed{Kind: api.DeedLose}, []api.Errno{api.ErrNone, api.OK}[min(i, 1)])
		if m := x.Mails(); len(m) == 1 && len(want) < MaxSent {
			want = append(want, m[0].Gram)
		}
	}
	if got := x.Sent(); len(want) != 4000 || !slices.Equal(got, want) {
		t.Errorf("%d were sent, want %d", len(got), len(want))
	}
	if x.Lost() != 0 {
		t.Errorf("%d lost", x.Lost())
	}
}
