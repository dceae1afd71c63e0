package node

import (
	"math/rand"
	"slices"
	"strings"
	"testing"

	"mosaic/api"
	"mosaic/bits"
	"mosaic/inner"
	"mosaic/manifest"
	"mosaic/merkle"
	"mosaic/wire"
)

// crowd is some nodes that can hear each other, and one that lies, of the number behind theirs.
type crowd struct {
	t     *testing.T
	r     *rand.Rand
	m     api.Manifest
	whole []string
	file  string
	slots int
	nodes []*Node
	mail  []api.Gram
}

func newCrowd(t *testing.T, r *rand.Rand, count int) *crowd {
	t.Helper()
	w := manifest.Want{Size: 1 + r.Intn(8), Seed: r.Intn(1000), Code: api.Code{Eps: api.Ratio{N: 1, D: 2}, Q: 1 + r.Intn(3), F: 4 + r.Intn(3)}}
	text := make([]byte, 1+r.Intn(60))
	r.Read(text)
	c := &crowd{t: t, r: r, file: string(text), slots: 1 + r.Intn(3)}
	set := api.Config{Room: 15, Timeout: 1000, Slots: c.slots, Quota: 20, Out: 300}
	for i := range count {
		n := New(i+1, api.Place{X: r.Intn(100), Y: r.Intn(100)}, set)
		switch {
		case i == 0:
			m, e := n.Publish(c.file, w)
			need(t, "Publish", e, api.OK)
			c.m, c.whole = m, n.Whole()
		case r.Intn(2) == 0:
			need(t, "Fetch", n.Fetch(c.m), api.OK)
		default:
			need(t, "Seek", n.Seek(manifest.Name(c.m)), api.OK)
		}
		c.nodes = append(c.nodes, n)
	}
	return c
}

func (c *crowd) liar() int {
	return len(c.nodes) + 1
}

// lies lets the liar send something to each node: it greets, and then sends other bytes for a block.
func (c *crowd) lies() {
	c.t.Helper()
	for _, n := range c.nodes {
		n.Take(c.liar(), wire.Text(api.Msg{Kind: api.MsgHello, Name: manifest.Name(c.m)}))
		i := c.r.Intn(len(c.whole))
		n.Take(c.liar(), wire.Text(api.Msg{Kind: api.MsgCheck, Head: api.Head{Mode: api.ModeOne, Seed: i}, Data: strings.Repeat("?", c.m.Size)}))
	}
}

// gather takes what waits to go out, of a node; check blocks of one tick must be right, and be sent to few.
func (c *crowd) gather(n *Node) {
	c.t.Helper()
	to := map[int]int{}
	for _, g := range n.Out() {
		c.mail = append(c.mail, g)
		m, e := wire.Read(g.Text)
		if e != api.OK || g.From != n.me || len(g.Text) > api.MaxGram {
			c.t.Fatalf("it sends %v", g)
		}
		switch m.Kind {
		case api.MsgCheck:
			to[g.To]++
			l, e := inner.Index(c.m, m.Head)
			for _, i := range l {
				if !bits.Has(n.Have(), i) {
					c.t.Errorf("%d sends of the block %d, which it has not", n.me, i)
				}
			}
			if e != api.OK || !inner.Right(c.m, m.Head, c.whole, m.Data) {
				c.t.Errorf("%d sends a false check block: %v", n.me, m)
			}
		case api.MsgProof:
			if !merkle.Check(c.m.Root, len(c.whole), m.Num, m.Digest, m.Path) {
				c.t.Errorf("%d sends a false proof: %v", n.me, m)
			}
		}
	}
	if len(to) > c.slots+1 {
		c.t.Errorf("%d sends check blocks to %v", n.me, to)
	}
}

// come lets all come that is under way; some of it is lost, if so many are.
func (c *crowd) come(lost int) {
	c.t.Helper()
	for len(c.mail) > 0 {
		g := c.mail[0]
		c.mail = c.mail[1:]
		if g.To == c.liar() || c.r.Intn(100) < lost {
			continue
		}
		n := c.nodes[g.To-1]
		before := n.Have()
		n.Take(g.From, g.Text)
		if now := n.Have(); before != "" && bits.Count(now) < bits.Count(before) {
			c.t.Errorf("%x is had, it was %x", now, before)
		}
		c.gather(n)
	}
}

// 20.5: what a node has is the file's, whoever lies; what it sends is right, and goes to few; who is fair is never banned.
func TestPromises(t *testing.T) {
	r := rand.New(rand.NewSource(205))
	bans := 0
	for range 40 {
		c := newCrowd(t, r, 2+r.Intn(4))
		for _, n := range c.nodes[1:] {
			for node := range c.nodes {
				n.Greet(node + 1)
			}
		}
		lost := r.Intn(3) * 20
		for round := range 400 {
			if round%7 == 0 && round < 200 {
				c.lies()
			}
			for _, n := range c.nodes {
				c.gather(n)
			}
			c.come(lost)
			for _, n := range c.nodes {
				need(t, "Tick", n.Tick(round), api.OK)
				c.gather(n)
			}
		}
		for _, n := range c.nodes {
			f, e := n.File()
			if f != c.file || e != api.OK {
				t.Errorf("the file of %d: %q, %v, want %q; it has %x", n.me, f, e, c.file, n.Have())
			}
			for i, s := range n.Whole() {
				if s != "" && s != c.whole[i] {
					t.Errorf("block %d of %d: %q, want %q", i, n.me, s, c.whole[i])
				}
			}
			for node := range c.nodes {
				if n.Banned(node + 1) {
					t.Errorf("%d has banned %d", n.me, node+1)
				}
			}
			if n.Banned(c.liar()) {
				bans++
			}
		}
	}
	if bans < 20 {
		t.Errorf("%d have banned the liar: take others", bans)
	}
}

// 20.5: datagrams that say nothing, of strangers, or of who was banned change nothing but counts.
func TestNothingButCounts(t *testing.T) {
	r := rand.New(rand.NewSource(2050))
	for _, n := range []*Node{owning(t, config()), fetching(t, config()), seeking(t, config()), idle(t, config())} {
		if n.name != "" {
			meet(t, n, 3, 4)
			say(t, n, 3, wants(), api.OK)
			n.table.Ban(6)
		}
		texts := []string{""}
		for _, m := range append(everything(t), hello(t, place())) {
			s := wire.Text(m)
			texts = append(texts, s+"x", s[:len(s)-1], "\x00"+s, s+s)
		}
		for range 300 {
			b := make([]byte, r.Intn(410))
			r.Read(b)
			texts = append(texts, string(b))
		}
		texts = slices.DeleteFunc(texts, func(s string) bool {
			_, e := wire.Read(s)
			return e == api.OK
		})
		before := n.Drops(api.ErrForm)
		unchanged(t, "what says nothing", n, func() {
			for _, s := range texts {
				need(t, "Take", n.Take(3, s), api.ErrForm)
				need(t, "Take", n.Take(5, s), api.ErrForm)
			}
		})
		if n.Drops(api.ErrForm) != before+2*len(texts) {
			t.Errorf("counts: %v", counts(n))
		}
		if n.name == "" {
			continue
		}
		unchanged(t, "who was banned", n, func() {
			for _, m := range append(everything(t), hello(t, place())) {
				say(t, n, 6, m, api.ErrBan)
			}
		})
	}
}
