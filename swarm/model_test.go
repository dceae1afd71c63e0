package swarm

import (
	"fmt"
	"math/rand"
	"slices"
	"strings"
	"testing"

	"mosaic/api"
	"mosaic/inner"
	"mosaic/manifest"
	"mosaic/merkle"
	"mosaic/node"
	"mosaic/wire"
)

// model is a swarm by the chapter's words: nodes, and a list of what is under way.
type model struct {
	nodes []*node.Node // nil: a liar
	given int
	mails []api.Mail
	sent  []api.Gram
	lost  int
}

func newModel(s api.Setup) *model {
	x := &model{}
	w := manifest.Want{Size: s.Size, Seed: s.Seed, Code: s.Code}
	m, _, _ := manifest.Publish(s.File, w)
	for i, role := range s.Roles {
		n := node.New(i+1, s.Places[i], s.Config)
		switch role {
		case 0:
			n.Publish(s.File, w)
		case 1:
			n.Fetch(m)
		case 2:
			n.Seek(manifest.Name(m))
		case 3:
			n = nil
		}
		x.nodes = append(x.nodes, n)
	}
	return x
}

// put lets a datagram go under way, if there is room.
func (x *model) put(g api.Gram) api.Errno {
	if g.To < 1 || g.To > 15 || g.To == g.From || len(g.Text) > 400 {
		return api.ErrArg
	}
	if len(x.mails) == 600 {
		return api.ErrFull
	}
	x.given++
	x.mails = append(x.mails, api.Mail{ID: x.given, Gram: g})
	return api.OK
}

// flush lets all go under way that nodes have to send.
func (x *model) flush() {
	for _, n := range x.nodes {
		if n == nil {
			continue
		}
		for _, g := range n.Out() {
			if x.put(g) != api.OK {
				x.lost++
			}
			if len(x.sent) < 4000 {
				x.sent = append(x.sent, g)
			}
		}
	}
}

// come takes a datagram to its node.
func (x *model) come(i int) {
	g := x.mails[i].Gram
	x.mails = slices.Delete(x.mails, i, i+1)
	if g.To <= len(x.nodes) && x.nodes[g.To-1] != nil {
		x.nodes[g.To-1].Take(g.From, g.Text)
	}
	x.flush()
}

func (x *model) do(d api.Deed) api.Errno {
	of := func(i int) *node.Node {
		if i >= 1 && i <= len(x.nodes) {
			return x.nodes[i-1]
		}
		return nil
	}
	switch d.Kind {
	case 1, 2, 3:
		if d.I < 0 || len(x.mails) == 0 {
			return api.ErrNone
		}
		i := d.I % len(x.mails)
		switch d.Kind {
		case 1:
			x.come(i)
		case 2:
			x.mails = slices.Delete(x.mails, i, i+1)
		case 3:
			return x.put(x.mails[i].Gram)
		}
		return api.OK
	case 4, 5:
		n := of(d.Node)
		if n == nil {
			return api.ErrArg
		}
		e := api.OK
		if d.Kind == 4 {
			e = n.Tick(d.I)
		} else {
			e = n.Greet(d.To)
		}
		x.flush()
		return e
	case 6:
		if d.Node < 1 || d.Node > len(x.nodes) || of(d.Node) != nil {
			return api.ErrArg
		}
		return x.put(api.Gram{From: d.Node, To: d.To, Text: d.Text})
	}
	return api.ErrArg
}

func (x *model) done() bool {
	return !slices.ContainsFunc(x.nodes, func(n *node.Node) bool { return n != nil && !n.Done() })
}

func (x *model) calm() (int, bool) {
	for i, n := range x.nodes {
		for to, other := range x.nodes {
			if i > 0 && n != nil && other != nil && to != i {
				n.Greet(to + 1)
				x.flush()
			}
		}
	}
	m, _ := x.nodes[0].Manifest()
	all := manifest.All(m)
	rounds := 0
	for !x.done() && rounds < 60+10*all+all*all {
		for range 5000 {
			if len(x.mails) > 0 {
				x.come(0)
			}
		}
		for _, n := range x.nodes {
			if n != nil {
				n.Tick(rounds)
				x.flush()
			}
		}
		rounds++
	}
	for len(x.mails) > 0 {
		x.come(0)
	}
	return rounds, x.done()
}

// chanceSetup is some swarm; it is often one that has too little of something.
func chanceSetup(r *rand.Rand, roomy bool) api.Setup {
	text := make([]byte, 1+r.Intn(24))
	r.Read(text)
	s := api.Setup{
		File: string(text), Size: 1 + r.Intn(6), Seed: r.Intn(1000),
		Code:  api.Code{Eps: api.Ratio{N: 1, D: 1 + r.Intn(2)}, Q: 1 + r.Intn(4), F: 4 + r.Intn(5)},
		Roles: []int{0}, Places: []api.Place{{X: r.Intn(30)}},
		Config: api.Config{Room: 5 + r.Intn(11), Timeout: 200 + r.Intn(800), Slots: 5 + r.Intn(4), Quota: 1 + r.Intn(26), Out: 200 + r.Intn(101)},
	}
	for range r.Intn(6) {
		s.Roles = append(s.Roles, []int{1, 1, 2, 2, 3}[r.Intn(5)])
		s.Places = append(s.Places, api.Place{X: r.Intn(30), Y: -r.Intn(30)})
	}
	if !roomy {
		s.Config = api.Config{Room: 1 + r.Intn(6), Timeout: 1 + r.Intn(30), Slots: r.Intn(3), Quota: 1 + r.Intn(4), Out: 1 + r.Intn(30)}
	}
	return s
}

// chanceLie is what a liar says: a message of any kind, a true one or a false one, or none.
func chanceLie(r *rand.Rand, m api.Manifest, whole []string) string {
	i := r.Intn(len(whole))
	x := api.Msg{Kind: []int{1, 1, 1, 2, 3, 4, 5, 6, 6, 6, 6, 6, 6, 6, 7, 8, 8, 9, 10, 11}[r.Intn(20)]}
	switch x.Kind {
	case api.MsgHello:
		x.Name, x.Place = manifest.Name(m), api.Place{X: r.Intn(20)}
	case api.MsgHave:
		b := make([]byte, (len(whole)+7)/8)
		r.Read(b)
		x.Have = string(b)
	case api.MsgWant:
		x.On = r.Intn(4) > 0
	case api.MsgCheck:
		x.Head = []api.Head{{Mode: api.ModeOne, Seed: i}, {Seed: r.Intn(50)}}[r.Intn(2)]
		x.Data, _ = inner.Encode(m, x.Head, whole)
		if r.Intn(4) > 0 {
			x.Data = strings.Repeat("?", len(x.Data))
		}
	case api.MsgAsk:
		x.Num = r.Intn(len(whole) + 1)
	case api.MsgProof:
		x.Num, x.Digest = i, merkle.Leaf(whole[i])
		x.Path, _ = merkle.Path(whole, i)
		if r.Intn(3) == 0 {
			x.Digest = merkle.Leaf("lie")
		}
	case api.MsgOffer:
		x.M = m
		if r.Intn(2) == 0 {
			x.M.Seed++
		}
	}
	return wire.Text(x) + []string{"", "x"}[r.Intn(20)/19]
}

// chanceDeed is a deed to a swarm, sometimes one that can't be done.
func chanceDeed(r *rand.Rand, x *Swarm) api.Deed {
	d := api.Deed{
		Kind: []int{1, 1, 1, 1, 1, 1, 1, 1, 2, 3, 4, 4, 4, 4, 5, 5, 6, 6, 6, 6, 6, 9}[r.Intn(22)],
		Node: 1 + r.Intn(x.Size()), To: 1 + r.Intn(x.Size()), I: r.Intn(1000),
	}
	if r.Intn(15) == 0 {
		d.Node, d.To, d.I = r.Intn(9)-1, r.Intn(19)-1, d.I-700
	}
	for i := 1; i <= x.Size(); i++ {
		if liar := x.Node(i) == nil; liar && d.Kind == api.DeedLie && r.Intn(10) > 0 {
			d.Node = i
		} else if liar && d.Kind == api.DeedGreet && r.Intn(2) == 0 {
			d.To = i
		}
	}
	if d.Kind == api.DeedLie {
		d.Text = chanceLie(r, x.Manifest(), x.Node(1).Whole())
	}
	return d
}

// needSame asks that a swarm is as the model is.
func needSame(t *testing.T, what string, x *Swarm, y *model) {
	t.Helper()
	if !slices.Equal(x.Mails(), y.mails) || x.Lost() != y.lost || len(x.Sent()) != len(y.sent) || x.Done() != y.done() || x.Size() != len(y.nodes) {
		t.Fatalf("behind %s: %v are under way, want %v; %d lost, want %d; %d sent, want %d", what, x.Mails(), y.mails, x.Lost(), y.lost, len(x.Sent()), len(y.sent))
	}
}

// needSameNodes asks that all nodes are as the model's, and sent the same.
func needSameNodes(t *testing.T, what string, x *Swarm, y *model) {
	t.Helper()
	needSame(t, what, x, y)
	if !slices.Equal(x.Sent(), y.sent) {
		t.Fatalf("behind %s: other datagrams were sent", what)
	}
	for i, n := range y.nodes {
		if got, want := nodeState(x.Node(i+1)), nodeState(n); got != want {
			t.Fatalf("behind %s: node %d is %s\nwant %s", what, i+1, got, want)
		}
	}
}

// 22.1 to 22.3: whatever is done to a swarm, it is as the chapter's words say.
func TestAgainstModel(t *testing.T) {
	r := rand.New(rand.NewSource(22))
	tally := map[string]int{}
	for k := range 220 {
		s := chanceSetup(r, k%3 > 0)
		x, y := made(t, s), newModel(s)
		needSameNodes(t, "New", x, y)
		for range r.Intn(500) {
			d := chanceDeed(r, x)
			got, want := x.Do(d), y.do(d)
			if got != want {
				t.Fatalf("%+v: %v, want %v", d, got, want)
			}
			tally[fmt.Sprint("kind ", d.Kind, " ", got)]++
			needSame(t, fmt.Sprintf("%+v", d), x, y)
		}
		needSameNodes(t, "deeds", x, y)
		for range 2 {
			n, done := x.Calm()
			rounds, is := y.calm()
			if n != rounds || done != is {
				t.Fatalf("Calm: %d, %v, want %d, %v", n, done, rounds, is)
			}
			needSameNodes(t, "Calm", x, y)
			tally[fmt.Sprint("done ", done)]++
			tally["rounds"] += n
		}
		tally["lost"] += x.Lost()
	}
	for _, what := range []string{"kind 1 0", "kind 1 4", "kind 2 0", "kind 3 0", "kind 4 0", "kind 4 1", "kind 5 0", "kind 5 1", "kind 5 10", "kind 6 0", "kind 6 1", "kind 9 1", "done true", "done false", "rounds"} {
		if tally[what] < 10 {
			t.Errorf("%s: %d: take others", what, tally[what])
		}
	}
}

// DOC.md's beginning: same arguments, same answers.
func TestSameAnswers(t *testing.T) {
	for seed := range int64(5) {
		var states []string
		for range 2 {
			r := rand.New(rand.NewSource(seed))
			x := made(t, chanceSetup(r, true))
			for range 300 {
				x.Do(chanceDeed(r, x))
			}
			n, done := x.Calm()
			states = append(states, fmt.Sprint(n, done, state(x)))
		}
		if states[0] != states[1] {
			t.Errorf("%s\nis not\n%s", states[0], states[1])
		}
	}
}
