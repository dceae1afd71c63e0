package node

import (
	"fmt"
	"math/rand"
	"slices"
	"testing"

	"mosaic/api"
	"mosaic/bits"
	"mosaic/choke"
	"mosaic/decoder"
	"mosaic/inner"
	"mosaic/manifest"
	"mosaic/merkle"
	"mosaic/wire"
)

// model is a node by the chapter's words: all in plain lists, with a decoder for what a decoder says.
type model struct {
	me     int
	at     api.Place
	c      api.Config
	time   int
	there  []api.Peer // by their numbers
	banned []int
	friend []int
	hellos []int // to whom MsgHello was sent at this time
	out    []api.Gram
	drops  [12]int
	checks int
	state  string // idle, seeks, fetches, owns
	name   string
	m      api.Manifest
	whole  []string
	d      *decoder.Decoder
}

func (x *model) find(node int) *api.Peer {
	for i := range x.there {
		if x.there[i].Node == node {
			return &x.there[i]
		}
	}
	return nil
}

func (x *model) remove(are func(p api.Peer) bool) {
	x.there = slices.DeleteFunc(x.there, are)
}

func (x *model) ban(node int) {
	x.remove(func(p api.Peer) bool { return p.Node == node })
	if !slices.Contains(x.banned, node) {
		x.banned = append(x.banned, node)
	}
}

func (x *model) send(node int, m api.Msg) {
	if m.Kind == api.MsgHello {
		x.hellos = append(x.hellos, node)
	}
	if m.Kind == api.MsgCheck {
		x.checks++
	}
	if len(x.out) == x.c.Out {
		x.drops[api.ErrFull]++
	} else {
		x.out = append(x.out, api.Gram{From: x.me, To: node, Text: wire.Text(m)})
	}
}

func (x *model) hello() api.Msg {
	return api.Msg{Kind: api.MsgHello, Place: x.at, Name: x.name}
}

// blocks are the blocks that it has, empty ones for the others.
func (x *model) blocks() []string {
	switch x.state {
	case "owns":
		return x.whole
	case "fetches":
		return x.d.Whole()
	}
	return nil
}

// has are the numbers of the blocks that it has.
func (x *model) has() []int {
	var l []int
	for i, s := range x.blocks() {
		if s != "" {
			l = append(l, i)
		}
	}
	return l
}

func (x *model) have() string {
	s, _ := bits.Of(len(x.blocks()), x.has())
	return s
}

func (x *model) done() bool {
	return x.state == "owns" || x.state == "fetches" && x.d.Done()
}

func (x *model) tell(node int) {
	if x.state == "owns" || x.state == "fetches" {
		x.send(node, api.Msg{Kind: api.MsgOffer, M: x.m})
	}
	x.send(node, api.Msg{Kind: api.MsgHave, Have: x.have()})
	x.send(node, api.Msg{Kind: api.MsgWant, On: x.state == "seeks" || x.state == "fetches" && !x.d.Done()})
}

func (x *model) take(from int, text string) api.Errno {
	m, e := wire.Read(text)
	switch {
	case from < 1 || from > 15 || from == x.me:
		return api.ErrArg
	case slices.Contains(x.banned, from):
		return api.ErrBan
	case e != api.OK:
		return api.ErrForm
	case x.state == "idle":
		return api.ErrNone
	}
	p := x.find(from)
	if p != nil {
		p.Seen = x.time
	}
	if m.Kind != api.MsgHello && p == nil {
		return api.ErrNone
	}
	before := len(x.has())
	e = x.message(from, p, m)
	if m.Kind == api.MsgCheck || m.Kind == api.MsgProof {
		for node := 1; node <= 15; node++ {
			if x.d.Banned(node) {
				x.ban(node)
			}
		}
		if len(x.has()) > before {
			for _, p := range x.there {
				x.send(p.Node, api.Msg{Kind: api.MsgHave, Have: x.have()})
			}
		}
	}
	return e
}

// message is what a message does; p is nil, if who sent it is not there.
func (x *model) message(from int, p *api.Peer, m api.Msg) api.Errno {
	switch m.Kind {
	case api.MsgHello:
		if m.Name != x.name {
			return api.ErrBad
		}
		if p == nil && len(x.there) == x.c.Room {
			return api.ErrFull
		}
		if p == nil {
			x.there = append(x.there, api.Peer{Node: from, Place: m.Place, Seen: x.time})
			slices.SortFunc(x.there, func(a, b api.Peer) int { return a.Node - b.Node })
		}
		if p == nil || !slices.Contains(x.hellos, from) {
			x.send(from, x.hello())
			x.tell(from)
		}
	case api.MsgHave:
		if (x.state == "fetches" || x.state == "owns") && !bits.Check(manifest.All(x.m), m.Have) {
			return api.ErrForm
		}
		p.Have = m.Have
	case api.MsgWant:
		p.Wants = m.On
	case api.MsgChoke, api.MsgOpen:
		p.Opens = m.Kind == api.MsgOpen
	case api.MsgBye:
		x.remove(func(p api.Peer) bool { return p.Node == from })
	case api.MsgOffer:
		if x.state != "seeks" {
			return api.ErrThere
		}
		if manifest.Name(m.M) != x.name {
			return api.ErrBad
		}
		x.state, x.m, x.d = "fetches", m.M, decoder.New(m.M, 15*x.c.Quota)
		for _, p := range x.there {
			x.tell(p.Node)
		}
	case api.MsgCheck:
		if x.state != "fetches" || len(x.has()) == manifest.All(x.m) {
			return api.ErrThere
		}
		if x.d.KeptOf(from) == x.c.Quota {
			x.d.Evict(from)
		}
		e := x.d.Add(from, m.Head, m.Data)
		if e == api.OK {
			p.Now += len(m.Data)
		}
		return e
	case api.MsgAsk:
		digest, path, is := x.proof(m.Num)
		if !is {
			return api.ErrNone
		}
		x.send(from, api.Msg{Kind: api.MsgProof, Num: m.Num, Digest: digest, Path: path})
	case api.MsgProof:
		if x.state != "fetches" {
			return api.ErrThere
		}
		e := x.d.Learn(m.Num, m.Digest, m.Path)
		if e == api.ErrBad {
			x.ban(from)
		}
		return e
	}
	return api.OK
}

func (x *model) proof(i int) (string, []string, bool) {
	if x.state == "owns" && i >= 0 && i < len(x.whole) {
		path, _ := merkle.Path(x.whole, i)
		return merkle.Leaf(x.whole[i]), path, true
	}
	return x.d.Proof(i)
}

func (x *model) tick(lot int) api.Errno {
	if lot < 0 {
		return api.ErrArg
	}
	if x.state == "idle" {
		return api.ErrNone
	}
	x.time++
	x.hellos = nil
	x.remove(func(p api.Peer) bool { return p.Seen < x.time-x.c.Timeout })
	if x.time%4 == 0 {
		x.window(lot)
	}
	for _, p := range x.there {
		if p.Open && len(x.has()) > 0 {
			x.check(p)
		}
	}
	for _, i := range x.d.Asks() {
		var l []api.Peer
		for _, p := range x.there {
			if bits.Has(p.Have, i) {
				l = append(l, p)
			}
		}
		if len(l) == 0 {
			l = slices.Clone(x.there)
		}
		if len(l) == 0 {
			continue
		}
		far := func(p api.Peer) int {
			a, b := p.Place.X-x.at.X, p.Place.Y-x.at.Y
			return a*a + b*b
		}
		slices.SortStableFunc(l, func(a, b api.Peer) int { return far(a) - far(b) })
		x.send(l[x.time%len(l)].Node, api.Msg{Kind: api.MsgAsk, Num: i})
	}
	return api.OK
}

func (x *model) window(lot int) {
	for i := range x.there {
		x.there[i].Rate, x.there[i].Now = x.there[i].Now, 0
	}
	chosen, _ := choke.Choose(x.there, x.c.Slots, lot, x.at)
	for i, p := range x.there {
		if slices.Contains(chosen, p.Node) && !p.Open {
			x.send(p.Node, api.Msg{Kind: api.MsgOpen})
			x.there[i].Open = true
		}
	}
	for i, p := range x.there {
		if !slices.Contains(chosen, p.Node) && p.Open {
			x.send(p.Node, api.Msg{Kind: api.MsgChoke})
			x.there[i].Open = false
		}
	}
	for node := 1; node <= 15; node++ {
		if slices.Contains(x.friend, node) && x.find(node) == nil && !slices.Contains(x.banned, node) {
			x.send(node, x.hello())
		}
	}
	for _, p := range x.there {
		x.tell(p.Node)
	}
}

func (x *model) check(p api.Peer) {
	h := api.Head{Mode: api.ModeSome, Seed: x.checks, Have: x.have()}
	if len(x.has()) == manifest.All(x.m) {
		h = api.Head{Mode: api.ModeAll, Seed: x.checks}
	}
	var lacks []int
	for _, i := range x.has() {
		if !bits.Has(p.Have, i) {
			lacks = append(lacks, i)
		}
	}
	if x.time%2 == 0 && len(lacks) > 0 {
		h = api.Head{Mode: api.ModeOne, Seed: lacks[(x.time/2)%len(lacks)]}
	}
	data, e := inner.Encode(x.m, h, x.blocks())
	if e != api.OK {
		panic(e)
	}
	x.send(p.Node, api.Msg{Kind: api.MsgCheck, Head: h, Data: data})
}

func (x *model) greet(node int) api.Errno {
	switch {
	case node < 1 || node > 15 || node == x.me:
		return api.ErrArg
	case x.state == "idle":
		return api.ErrNone
	case slices.Contains(x.banned, node):
		return api.ErrBan
	}
	x.friend = append(x.friend, node)
	x.send(node, x.hello())
	return api.OK
}

// both is a node and its model, to which the same is done.
type both struct {
	n *Node
	x *model
}

func (b both) take(t *testing.T, from int, text string) {
	t.Helper()
	got, want := b.n.Take(from, text), b.x.take(from, text)
	if want != api.OK {
		b.x.drops[want]++
	}
	b.same(t, fmt.Sprintf("Take(%d, %x)", from, text), got, want)
}

func (b both) tick(t *testing.T, lot int) {
	t.Helper()
	b.same(t, fmt.Sprintf("Tick(%d)", lot), b.n.Tick(lot), b.x.tick(lot))
}

func (b both) greet(t *testing.T, node int) {
	t.Helper()
	b.same(t, fmt.Sprintf("Greet(%d)", node), b.n.Greet(node), b.x.greet(node))
}

// same asks for one answer, and one state.
func (b both) same(t *testing.T, what string, got, want api.Errno) {
	t.Helper()
	if got != want {
		t.Fatalf("%s: %v, want %v", what, got, want)
	}
	n, x := b.n, b.x
	if !slices.Equal(n.Peers(), x.there) || counts(n) != x.drops || n.Time() != x.time || !slices.Equal(n.waiting, x.out) {
		t.Fatalf("behind %s at %d: %v, want %v; counts %v, want %v; %v waits, want %v", what, x.time, n.Peers(), x.there, counts(n), x.drops, n.waiting, x.out)
	}
	if !slices.Equal(n.Whole(), x.blocks()) || n.Have() != x.have() || n.Done() != x.done() || n.Kept() != x.d.Kept() || n.Owns() != (x.state == "owns") {
		t.Fatalf("behind %s: %q, want %q; %d are kept, want %d", what, n.Whole(), x.blocks(), n.Kept(), x.d.Kept())
	}
	for node := range 17 {
		if n.Banned(node) != slices.Contains(x.banned, node) {
			t.Fatalf("behind %s: banned %d: %v", what, node, n.Banned(node))
		}
	}
	m, is := n.Manifest()
	if is != (x.state == "owns" || x.state == "fetches") || m != x.m {
		t.Fatalf("behind %s: %v, %v", what, m, is)
	}
}

func (b both) out(t *testing.T) []api.Gram {
	t.Helper()
	l := b.n.Out()
	if !slices.Equal(l, b.x.out) || len(b.n.Out()) != 0 {
		t.Fatalf("Out: %v, want %v", l, b.x.out)
	}
	b.x.out = nil
	return l
}

// chanceConfig is a config that is often too narrow.
func chanceConfig(r *rand.Rand) api.Config {
	return api.Config{Room: 1 + r.Intn(6), Timeout: 1 + r.Intn(30), Slots: r.Intn(4), Quota: 1 + r.Intn(26), Out: 1 + r.Intn(300)}
}

// chanceSwarm is some nodes: the first owns, the others fetch, seek or are idle.
func chanceSwarm(r *rand.Rand, m api.Manifest, text string, w manifest.Want) []both {
	var l []both
	for i := range 2 + r.Intn(4) {
		c, at := chanceConfig(r), api.Place{X: r.Intn(9), Y: -r.Intn(9)}
		if r.Intn(2) == 0 {
			c = api.Config{Room: 15, Timeout: 50, Slots: 2, Quota: 20, Out: 300}
		}
		b := both{New(i+1, at, c), &model{me: i + 1, at: at, c: c, state: "idle"}}
		switch kind := r.Intn(8); {
		case i == 0:
			b.n.Publish(text, w)
			_, whole, _ := manifest.Publish(text, w)
			b.x.state, b.x.name, b.x.m, b.x.whole = "owns", manifest.Name(m), m, whole
		case kind < 4:
			b.n.Fetch(m)
			b.x.state, b.x.name, b.x.m, b.x.d = "fetches", manifest.Name(m), m, decoder.New(m, 15*c.Quota)
		case kind < 7:
			b.n.Seek(manifest.Name(m))
			b.x.state, b.x.name = "seeks", manifest.Name(m)
		}
		l = append(l, b)
	}
	return l
}

// chanceLie is a message of one who lies, or of a stranger: sometimes a true one, sometimes none.
func chanceLie(r *rand.Rand, m api.Manifest, whole []string) string {
	i := r.Intn(len(whole))
	path, _ := merkle.Path(whole, i)
	x := api.Msg{Kind: []int{1, 1, 2, 3, 4, 5, 6, 6, 6, 6, 6, 6, 7, 8, 8, 9, 10, 11}[r.Intn(18)]}
	switch x.Kind {
	case api.MsgHello:
		x.Name, x.Place = manifest.Name(m), api.Place{X: r.Intn(20)}
		if r.Intn(5) == 0 {
			x.Name = x.Name[1:] + "x"
		}
	case api.MsgHave:
		x.Have = bits.Full(len(whole) + r.Intn(3) - 1)
	case api.MsgWant:
		x.On = r.Intn(4) > 0
	case api.MsgCheck:
		x.Head, x.Data = api.Head{Mode: api.ModeOne, Seed: i}, whole[i]
		if r.Intn(3) == 0 {
			x.Head = api.Head{Seed: r.Intn(50)}
			x.Data, _ = inner.Encode(m, x.Head, whole)
		}
		if r.Intn(2) == 0 {
			x.Data = "?" + x.Data[1:]
		}
		if r.Intn(9) == 0 {
			x.Data += "x"
		}
	case api.MsgAsk:
		x.Num = r.Intn(len(whole) + 1)
	case api.MsgProof:
		x.Num, x.Digest, x.Path = i, merkle.Leaf(whole[i]), path
		if r.Intn(30) == 0 {
			x.Num++
		}
	case api.MsgOffer:
		x.M = m
		if r.Intn(2) == 0 {
			x.M.Seed++
		}
	}
	text := wire.Text(x)
	if r.Intn(20) == 0 {
		text += "x"
	}
	return text
}

// 20.1 to 20.4: whatever is done to nodes, whoever lies, and whatever is lost and doubled: they are as the chapter's words say.
func TestAgainstModel(t *testing.T) {
	r := rand.New(rand.NewSource(20))
	tally := map[string]int{}
	for range 300 {
		w := manifest.Want{Size: 1 + r.Intn(6), Seed: r.Intn(99), Code: api.Code{Eps: api.Ratio{N: 1, D: 2}, Q: 1 + r.Intn(3), F: 4 + r.Intn(3)}}
		m, whole, e := manifest.Publish("mosaic, a file"[:1+r.Intn(14)], w)
		text, _ := manifest.File(m, whole)
		if e != api.OK {
			t.Fatal(e)
		}
		l := chanceSwarm(r, m, text, w)
		var mail []api.Gram
		for range 600 {
			i := r.Intn(len(l))
			b := l[i]
			switch kind := r.Intn(40); {
			case kind < 6:
				b.tick(t, r.Intn(9)-r.Intn(20)/19)
			case kind < 8:
				b.greet(t, r.Intn(len(l)+3))
			case kind < 14:
				b.take(t, r.Intn(len(l)+4), chanceLie(r, m, whole))
			case len(mail) > 0:
				g := mail[0]
				if r.Intn(9) == 0 {
					g = mail[r.Intn(len(mail))]
				} else {
					mail = mail[1:]
				}
				if g.To <= len(l) && r.Intn(30) > 0 {
					l[g.To-1].take(t, g.From, g.Text)
				}
			}
			if r.Intn(4) > 0 {
				mail = append(mail, b.out(t)...)
			}
			tally[b.x.state]++
		}
		for _, b := range l[1:] {
			if b.n.Done() {
				f, e := b.n.File()
				if f != text || e != api.OK {
					t.Errorf("File: %q, %v", f, e)
				}
				tally["done"]++
			}
			tally["banned"] += len(b.x.banned)
			tally["full"] += b.x.drops[api.ErrFull]
			tally["there"] += len(b.x.there)
		}
	}
	for _, what := range []string{"idle", "seeks", "fetches", "owns", "done", "banned", "full", "there"} {
		if tally[what] < 10 {
			t.Errorf("%s: %d: take others", what, tally[what])
		}
	}
}
