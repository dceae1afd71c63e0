package swarm

import (
	"math/rand"
	"slices"
	"testing"

	"mosaic/api"
	"mosaic/bits"
	"mosaic/inner"
	"mosaic/manifest"
	"mosaic/merkle"
	"mosaic/wire"
)

// watch asks of a swarm, deed by deed, what must never be otherwise.
type watch struct {
	t      *testing.T
	x      *Swarm
	file   string
	whole  []string
	haves  [api.MaxNodes + 1]string
	looked int // of what was sent
}

func (w *watch) look() {
	w.t.Helper()
	if len(w.x.Mails()) > api.MaxMail {
		w.t.Fatalf("%d are under way", len(w.x.Mails()))
	}
	for i := 1; i <= w.x.Size(); i++ {
		if w.x.Node(i) != nil {
			w.lookAt(i)
		}
	}
	sent := w.x.Sent()
	for _, g := range sent[w.looked:] {
		w.lookAtSent(g)
	}
	w.looked = len(sent)
}

// lookAt asks that a node has what it had, and that it is the file's; and that it has banned no node.
func (w *watch) lookAt(i int) {
	w.t.Helper()
	n := w.x.Node(i)
	now := n.Have()
	for k, s := range n.Whole() {
		if s != "" && s != w.whole[k] {
			w.t.Fatalf("block %d of %d is %q, want %q", k, i, s, w.whole[k])
		}
		if bits.Has(w.haves[i], k) && !bits.Has(now, k) {
			w.t.Fatalf("%d has lost the block %d", i, k)
		}
	}
	w.haves[i] = now
	if f, e := n.File(); n.Done() && (f != w.file || e != api.OK) {
		w.t.Fatalf("the file of %d: %q, %v", i, f, e)
	}
	for other := range w.x.Size() + 1 {
		if w.x.Node(other) != nil && n.Banned(other) {
			w.t.Fatalf("%d has banned %d", i, other)
		}
	}
}

// lookAtSent asks that what a node sent is true.
func (w *watch) lookAtSent(g api.Gram) {
	w.t.Helper()
	m, e := wire.Read(g.Text)
	if e != api.OK || w.x.Node(g.From) == nil {
		w.t.Fatalf("%v is sent", g)
	}
	own := w.x.Manifest()
	switch m.Kind {
	case api.MsgCheck:
		if !inner.Right(own, m.Head, w.whole, m.Data) {
			w.t.Fatalf("%d sends a false check block: %v", g.From, m)
		}
	case api.MsgProof:
		if !merkle.Check(own.Root, len(w.whole), m.Num, m.Digest, m.Path) {
			w.t.Fatalf("%d sends a false proof: %v", g.From, m)
		}
	case api.MsgOffer:
		if m.M != own {
			w.t.Fatalf("%d sends another manifest: %v", g.From, m)
		}
	}
}

// 22.4: whoever lies, and whatever is lost, doubled or late: what nodes have and send is right, and only grows; no node is banned by a node; when nothing is lost any more, all are done within Rounds.
func TestPromises(t *testing.T) {
	r := rand.New(rand.NewSource(224))
	liars, bans, late := 0, 0, 0
	for k := range 240 {
		s := chanceSetup(r, k%4 > 0)
		x := made(t, s)
		w := &watch{t: t, x: x, file: s.File, whole: x.Node(1).Whole()}
		for range r.Intn(400) {
			x.Do(chanceDeed(r, x))
			w.look()
		}
		if !x.Done() {
			late++
		}
		n, done := x.Calm()
		w.look()
		if k%4 > 0 && (!done || n > Rounds(manifest.All(x.Manifest()))) {
			t.Errorf("%+v: %d rounds, %v", s, n, done)
		}
		if done {
			needFiles(t, x, s.File)
		}
		liars += len(slices.DeleteFunc(s.Roles, func(role int) bool { return role != api.RoleLies }))
		for i := 1; i <= x.Size(); i++ {
			for other := range x.Size() + 1 {
				if x.Node(i) != nil && x.Node(i).Banned(other) {
					bans++
				}
			}
		}
	}
	if liars < 40 || bans < 20 || late < 50 {
		t.Errorf("%d liars, %d bans, %d late: take others", liars, bans, late)
	}
}

// 22.4: files of many blocks get there, whatever was said and lost.
func TestManyBlocks(t *testing.T) {
	r := rand.New(rand.NewSource(2240))
	for range 12 {
		s := chanceSetup(r, true)
		text := make([]byte, 96*s.Size-r.Intn(40*s.Size))
		r.Read(text)
		s.File, s.Code = string(text), api.Code{Eps: api.Ratio{N: 1, D: 1}, Q: 1 + r.Intn(8), F: 4 + r.Intn(20)}
		x := made(t, s)
		w := &watch{t: t, x: x, file: s.File, whole: x.Node(1).Whole()}
		for range r.Intn(800) {
			x.Do(chanceDeed(r, x))
		}
		w.look()
		n, done := x.Calm()
		w.look()
		if !done || n > Rounds(len(w.whole)) {
			t.Errorf("%d blocks: %d rounds, %v", len(w.whole), n, done)
		}
		needFiles(t, x, s.File)
	}
}
