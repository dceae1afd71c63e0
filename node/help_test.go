package node

import (
	"fmt"
	"slices"
	"strings"
	"testing"

	"mosaic/api"
	"mosaic/bits"
	"mosaic/inner"
	"mosaic/manifest"
	"mosaic/merkle"
	"mosaic/wire"
)

const (
	me   = 7
	all  = 7 // blocks of the published file: four message blocks and three auxiliary ones
	file = "hello, world"
	junk = "\xff"
)

func config() api.Config {
	return api.Config{Room: 5, Timeout: 100, Slots: 2, Quota: 20, Out: 200}
}

func place() api.Place {
	return api.Place{X: 3, Y: -4}
}

func want() manifest.Want {
	return manifest.Want{Size: 3, Seed: 9, Code: api.Code{Eps: api.Ratio{N: 1, D: 2}, Q: 2, F: 4}}
}

func published(t *testing.T) (api.Manifest, []string) {
	t.Helper()
	m, w, e := manifest.Publish(file, want())
	if e != api.OK || len(w) != all {
		t.Fatalf("%d blocks, %v", len(w), e)
	}
	return m, w
}

// other is a manifest of another file.
func other(t *testing.T) api.Manifest {
	t.Helper()
	m, _, e := manifest.Publish("another file", want())
	if e != api.OK {
		t.Fatal(e)
	}
	return m
}

func idle(t *testing.T, c api.Config) *Node {
	t.Helper()
	n := New(me, place(), c)
	if n == nil {
		t.Fatalf("there is no node of %v", c)
	}
	return n
}

func owning(t *testing.T, c api.Config) *Node {
	t.Helper()
	n := idle(t, c)
	_, e := n.Publish(file, want())
	need(t, "Publish", e, api.OK)
	return n
}

func fetching(t *testing.T, c api.Config) *Node {
	t.Helper()
	m, _ := published(t)
	n := idle(t, c)
	need(t, "Fetch", n.Fetch(m), api.OK)
	return n
}

func seeking(t *testing.T, c api.Config) *Node {
	t.Helper()
	m, _ := published(t)
	n := idle(t, c)
	need(t, "Seek", n.Seek(manifest.Name(m)), api.OK)
	return n
}

// need asks for an answer of a call.
func need(t *testing.T, what string, got, want api.Errno) {
	t.Helper()
	if got != want {
		t.Errorf("%s: %v, want %v", what, got, want)
	}
}

// say lets a node take a message, and asks for the answer.
func say(t *testing.T, n *Node, from int, m api.Msg, want api.Errno) {
	t.Helper()
	if !wire.Check(m) {
		t.Fatalf("%v is no message", m)
	}
	if e := n.Take(from, wire.Text(m)); e != want {
		t.Errorf("%v of %d: %v, want %v", m, from, e, want)
	}
}

func hello(t *testing.T, at api.Place) api.Msg {
	t.Helper()
	m, _ := published(t)
	return api.Msg{Kind: api.MsgHello, Place: at, Name: manifest.Name(m)}
}

// meet lets nodes be peers; what they are sent is taken.
func meet(t *testing.T, n *Node, nodes ...int) {
	t.Helper()
	for _, node := range nodes {
		say(t, n, node, hello(t, api.Place{X: node}), api.OK)
	}
	n.Out()
}

// set is a set of blocks of the published file.
func set(t *testing.T, l ...int) string {
	t.Helper()
	s, e := bits.Of(all, l)
	if e != api.OK {
		t.Fatal(e)
	}
	return s
}

func have(t *testing.T, l ...int) api.Msg {
	t.Helper()
	return api.Msg{Kind: api.MsgHave, Have: set(t, l...)}
}

// check is a true check block of the published file.
func check(t *testing.T, h api.Head) api.Msg {
	t.Helper()
	m, w := published(t)
	data, e := inner.Encode(m, h, w)
	if e != api.OK {
		t.Fatal(e)
	}
	return api.Msg{Kind: api.MsgCheck, Head: h, Data: data}
}

func one(t *testing.T, i int) api.Msg {
	t.Helper()
	return check(t, api.Head{Mode: api.ModeOne, Seed: i})
}

// lie is a check block of one block, with other bytes.
func lie(i int) api.Msg {
	return api.Msg{Kind: api.MsgCheck, Head: api.Head{Mode: api.ModeOne, Seed: i}, Data: "lie"}
}

func proof(t *testing.T, i int) api.Msg {
	t.Helper()
	_, w := published(t)
	path, e := merkle.Path(w, i)
	if e != api.OK {
		t.Fatal(e)
	}
	return api.Msg{Kind: api.MsgProof, Num: i, Digest: merkle.Leaf(w[i]), Path: path}
}

// give lets a node have blocks, of a peer who is there.
func give(t *testing.T, n *Node, from int, l ...int) {
	t.Helper()
	for _, i := range l {
		if _, _, is := n.Proof(i); !is {
			say(t, n, from, proof(t, i), api.OK)
		}
		if !bits.Has(n.Have(), i) {
			say(t, n, from, one(t, i), api.OK)
		}
		if !bits.Has(n.Have(), i) {
			t.Fatalf("block %d is not had", i)
		}
	}
	n.Out()
}

// to is a message to a node.
type to struct {
	node int
	m    api.Msg
}

// needOut asks for just these datagrams.
func needOut(t *testing.T, what string, n *Node, want ...to) {
	t.Helper()
	var got, asked []string
	for _, g := range n.Out() {
		m, e := wire.Read(g.Text)
		if e != api.OK || g.From != me {
			t.Errorf("%s: %v, %v", what, g, e)
		}
		got = append(got, fmt.Sprintf("%d: %+v", g.To, m))
	}
	for _, x := range want {
		asked = append(asked, fmt.Sprintf("%d: %+v", x.node, x.m))
	}
	if !slices.Equal(got, asked) {
		t.Errorf("%s: it sends\n%s\nwant\n%s", what, strings.Join(got, "\n"), strings.Join(asked, "\n"))
	}
	if len(n.Out()) > 0 {
		t.Errorf("%s: more waits behind Out", what)
	}
}

// about is what a node tells about itself to its peers, by what it has.
func about(t *testing.T, node int, offers bool, has string, wants bool) []to {
	t.Helper()
	var l []to
	if offers {
		m, _ := published(t)
		l = append(l, to{node, api.Msg{Kind: api.MsgOffer, M: m}})
	}
	return append(l, to{node, api.Msg{Kind: api.MsgHave, Have: has}}, to{node, api.Msg{Kind: api.MsgWant, On: wants}})
}

// state is all that calls tell of a node, or will tell, but its counts.
func state(n *Node) string {
	m, is := n.Manifest()
	f, e := n.File()
	s := fmt.Sprintf("%v %v %v %q %x %v %q %v %+v %d %d\n", m, is, n.Owns(), n.Whole(), n.Have(), n.Done(), f, e, n.Peers(), n.Kept(), n.Time())
	for i := range all {
		digest, path, is := n.Proof(i)
		s += fmt.Sprintf("%x %x %v\n", digest, path, is)
	}
	for node := range 17 {
		s += fmt.Sprint(n.Banned(node), " ")
	}
	return s + fmt.Sprintf("%v %v %v %d %q", n.waiting, n.friends, n.greeted, n.checks, n.name)
}

// counts are a node's counts.
func counts(n *Node) [12]int {
	var l [12]int
	for e := range l {
		l[e] = n.Drops(api.Errno(e))
	}
	return l
}

// unchanged asks that what is done changes nothing but counts.
func unchanged(t *testing.T, what string, n *Node, do func()) {
	t.Helper()
	before := state(n)
	do()
	if now := state(n); now != before {
		t.Errorf("%s has changed something:\n%s\nit was\n%s", what, now, before)
	}
}

// uncounted asks that what is done changes nothing at all.
func uncounted(t *testing.T, what string, n *Node, do func()) {
	t.Helper()
	before := counts(n)
	unchanged(t, what, n, do)
	if now := counts(n); now != before {
		t.Errorf("%s is counted: %v, it was %v", what, now, before)
	}
}

// peer is what a node knows of a peer, who must be there.
func peer(t *testing.T, n *Node, node int) api.Peer {
	t.Helper()
	for _, p := range n.Peers() {
		if p.Node == node {
			return p
		}
	}
	t.Fatalf("%d is not there", node)
	return api.Peer{}
}

// tick lets time go on, with the lot 0.
func tick(t *testing.T, n *Node, times int) {
	t.Helper()
	for range times {
		need(t, "Tick", n.Tick(0), api.OK)
	}
}
