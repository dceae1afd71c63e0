package swarm

import (
	"fmt"
	"slices"
	"testing"

	"mosaic/api"
	"mosaic/bits"
	"mosaic/manifest"
	"mosaic/node"
	"mosaic/wire"
)

const file = "hello, world"

// setup is a swarm of nodes of these roles that has room and slots for all.
func setup(roles ...int) api.Setup {
	s := api.Setup{
		File: file, Size: 3, Seed: 9, Code: api.Code{Eps: api.Ratio{N: 1, D: 2}, Q: 2, F: 4}, Roles: roles,
		Config: api.Config{Room: 15, Timeout: 1000, Slots: 5, Quota: 20, Out: 300},
	}
	for i := range roles {
		s.Places = append(s.Places, api.Place{X: i, Y: -i})
	}
	return s
}

// made is the swarm of a setup, which must be there.
func made(t *testing.T, s api.Setup) *Swarm {
	t.Helper()
	x := New(s)
	if x == nil {
		t.Fatalf("there is no swarm of %v", s)
	}
	return x
}

// small is a swarm of one that owns, one that fetches, a liar, and one that seeks.
func small(t *testing.T) *Swarm {
	t.Helper()
	return made(t, setup(api.RoleOwns, api.RoleFetches, api.RoleLies, api.RoleSeeks))
}

// do does a deed, and asks for the answer.
func do(t *testing.T, x *Swarm, d api.Deed, want api.Errno) {
	t.Helper()
	if got := x.Do(d); got != want {
		t.Errorf("%+v: %v, want %v", d, got, want)
	}
}

func lie(from, to int, text string) api.Deed {
	return api.Deed{Kind: api.DeedLie, Node: from, To: to, Text: text}
}

// fill fills the net of a small swarm with what the liar says to node 2.
func fill(t *testing.T, x *Swarm, text string) {
	t.Helper()
	for len(x.Mails()) < api.MaxMail {
		do(t, x, lie(3, 2, text), api.OK)
	}
}

func ping() string {
	return wire.Text(api.Msg{Kind: api.MsgPing})
}

// hello is a greeting of one who is in the swarm.
func hello(x *Swarm) string {
	return wire.Text(api.Msg{Kind: api.MsgHello, Name: manifest.Name(x.Manifest())})
}

// nodeState is all that calls tell of a node.
func nodeState(n *node.Node) string {
	if n == nil {
		return "none"
	}
	m, is := n.Manifest()
	f, e := n.File()
	s := fmt.Sprintf("%v %v %v %q %v %q %v %+v %d %d", m, is, n.Owns(), n.Whole(), n.Done(), f, e, n.Peers(), n.Kept(), n.Time())
	for e := range api.ErrBan + 1 {
		s += fmt.Sprint(" ", n.Drops(e))
	}
	for i := range api.MaxPeer + 1 {
		s += fmt.Sprint(" ", n.Banned(i))
	}
	for i := range manifest.All(m) {
		digest, path, is := n.Proof(i)
		s += fmt.Sprintf(" %x %x %v", digest, path, is)
	}
	return s
}

// state is all that calls tell of a swarm.
func state(x *Swarm) string {
	s := fmt.Sprintf("%v %v %d %d %v\n%v\n", x.Manifest(), x.Size(), x.Lost(), len(x.Sent()), x.Done(), x.Mails())
	for i := range api.MaxNodes + 2 {
		s += nodeState(x.Node(i)) + "\n"
	}
	return s + fmt.Sprint(x.Sent())
}

// unchanged asks that what is done changes nothing.
func unchanged(t *testing.T, what string, x *Swarm, do func()) {
	t.Helper()
	before := state(x)
	do()
	if now := state(x); now != before {
		t.Errorf("%s has changed something:\n%s\nit was\n%s", what, now, before)
	}
}

// needGrams asks for just these datagrams under way.
func needGrams(t *testing.T, what string, x *Swarm, want ...api.Gram) {
	t.Helper()
	var got []api.Gram
	for _, m := range x.Mails() {
		got = append(got, m.Gram)
	}
	if !slices.Equal(got, want) {
		t.Errorf("%s: %v are under way, want %v", what, got, want)
	}
}

// has are how many blocks a node has.
func has(n *node.Node) int {
	return bits.Count(n.Have())
}
