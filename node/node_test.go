package node

import (
	"math"
	"slices"
	"strings"
	"testing"

	"mosaic/api"
	"mosaic/manifest"
	"mosaic/merkle"
)

// 20.1: of which numbers, places and configs there are nodes.
func TestNew(t *testing.T) {
	c := config()
	for _, node := range []int{1, 2, 14, 15} {
		for _, at := range []api.Place{{}, {X: api.MaxPlace, Y: -api.MaxPlace}, {X: -api.MaxPlace, Y: api.MaxPlace}} {
			n := New(node, at, c)
			if n == nil || n.Time() != 0 || len(n.Peers()) != 0 || len(n.Out()) != 0 || n.Done() || n.Owns() {
				t.Errorf("New(%d, %v): %v", node, at, n)
			}
		}
	}
	for _, node := range []int{0, -1, 16, 257, 1<<32 + 1, math.MaxInt, math.MinInt} {
		if New(node, api.Place{}, c) != nil {
			t.Errorf("there is a node %d", node)
		}
	}
	for _, x := range []int{api.MaxPlace + 1, -api.MaxPlace - 1, math.MaxInt, math.MinInt} {
		if New(1, api.Place{X: x}, c) != nil || New(1, api.Place{Y: x}, c) != nil {
			t.Errorf("there is a node at %d", x)
		}
	}
}

// 20.1: the edges of each part of a config.
func TestNewOfConfigs(t *testing.T) {
	parts := []struct {
		least, most int
		with        func(c *api.Config) *int
	}{
		{1, 15, func(c *api.Config) *int { return &c.Room }},
		{1, 1 << 40, func(c *api.Config) *int { return &c.Timeout }},
		{0, 8, func(c *api.Config) *int { return &c.Slots }},
		{1, 26, func(c *api.Config) *int { return &c.Quota }},
		{1, 300, func(c *api.Config) *int { return &c.Out }},
	}
	for i, part := range parts {
		for _, x := range []int{part.least, part.least + 1, part.most - 1, part.most} {
			c := config()
			*part.with(&c) = x
			n := New(3, api.Place{}, c)
			if n == nil {
				t.Errorf("there is no node of %v", c)
				continue
			}
			m, _ := published(t)
			need(t, "Fetch", n.Fetch(m), api.OK)
			need(t, "Tick", n.Tick(0), api.OK)
		}
		for _, x := range []int{part.least - 1, part.most + 1, -7, math.MaxInt, math.MinInt, 1<<44 + 1} {
			c := config()
			*part.with(&c) = x
			if New(3, api.Place{}, c) != nil {
				t.Errorf("part %d: there is a node of %v", i, c)
			}
		}
	}
	if New(1, api.Place{}, api.Config{}) != nil {
		t.Errorf("there is a node of no config")
	}
}

// 20.1: a node that publishes owns: it has all.
func TestPublish(t *testing.T) {
	m, w := published(t)
	n := idle(t, config())
	got, e := n.Publish(file, want())
	if e != api.OK || got != m || !n.Owns() || !n.Done() || !slices.Equal(n.Whole(), w) || n.Have() != set(t, 0, 1, 2, 3, 4, 5, 6) {
		t.Errorf("Publish: %v, %v, %q", got, e, n.Whole())
	}
	if k, is := n.Manifest(); k != m || !is {
		t.Errorf("Manifest: %v, %v", k, is)
	}
	if f, e := n.File(); f != file || e != api.OK {
		t.Errorf("File: %q, %v", f, e)
	}
	for i := range w {
		digest, path, is := n.Proof(i)
		if !is || digest != merkle.Leaf(w[i]) || !merkle.Check(m.Root, all, i, digest, path) {
			t.Errorf("Proof(%d): %x, %x, %v", i, digest, path, is)
		}
	}
	needOut(t, "Publish", n)
}

// 20.1: manifest.Publish's errors, behind which a node is idle as it was.
func TestPublishOfWrong(t *testing.T) {
	n := idle(t, config())
	uncounted(t, "a wrong Publish", n, func() {
		wrong := []manifest.Want{want(), want(), want()}
		wrong[0].Size = 0
		wrong[1].Seed = -1
		wrong[2].Code.F = 0
		for _, w := range wrong {
			m, e := n.Publish(file, w)
			if e != api.ErrArg || m != (api.Manifest{}) {
				t.Errorf("Publish(%v): %v, %v", w, m, e)
			}
		}
		_, e := n.Publish("", want())
		need(t, "Publish of nothing", e, api.ErrArg)
		_, e = n.Publish(strings.Repeat("x", api.MaxFile+1), want())
		need(t, "Publish of too much", e, api.ErrLong)
		need(t, "Tick", n.Tick(0), api.ErrNone)
	})
	_, e := n.Publish(file, want())
	need(t, "Publish", e, api.OK)
}

// 20.1: ErrThere comes first, in Publish, Fetch and Seek.
func TestNotIdle(t *testing.T) {
	m, _ := published(t)
	for i, n := range []*Node{owning(t, config()), fetching(t, config()), seeking(t, config())} {
		uncounted(t, "a call that comes too late", n, func() {
			for _, f := range []string{"", file} {
				k, e := n.Publish(f, want())
				if e != api.ErrThere || k != (api.Manifest{}) {
					t.Errorf("Publish: %v, %v", k, e)
				}
			}
			for _, name := range []string{"", manifest.Name(m), manifest.Name(other(t))} {
				need(t, "Seek", n.Seek(name), api.ErrThere)
			}
			if i == 2 {
				return
			}
			for _, k := range []api.Manifest{{}, m, other(t)} {
				need(t, "Fetch", n.Fetch(k), api.ErrThere)
			}
		})
	}
}

// 20.1: Fetch of an idle node, and of one that seeks.
func TestFetch(t *testing.T) {
	m, _ := published(t)
	wrong := m
	wrong.Root += "x"
	for _, n := range []*Node{idle(t, config()), seeking(t, config())} {
		uncounted(t, "a wrong Fetch", n, func() {
			need(t, "Fetch of nothing", n.Fetch(api.Manifest{}), api.ErrArg)
			need(t, "Fetch of what may not be", n.Fetch(wrong), api.ErrArg)
			if n.name != "" {
				need(t, "Fetch of another one", n.Fetch(other(t)), api.ErrBad)
			}
		})
		meetable := n.name != ""
		if meetable {
			meet(t, n, 1, 2)
		}
		need(t, "Fetch", n.Fetch(m), api.OK)
		if k, is := n.Manifest(); k != m || !is || n.Owns() || n.Done() || n.Have() != set(t) || len(n.Whole()) != all {
			t.Errorf("behind Fetch: %v, %v, %x, %q", k, is, n.Have(), n.Whole())
		}
		needOut(t, "Fetch", n)
	}
	n := idle(t, config())
	need(t, "Fetch of another one", n.Fetch(other(t)), api.OK)
}

// 20.1: Seek asks for 32 bytes, whatever they are.
func TestSeek(t *testing.T) {
	n := idle(t, config())
	uncounted(t, "a wrong Seek", n, func() {
		for _, k := range []int{0, 1, 31, 33, 64} {
			need(t, "Seek", n.Seek(strings.Repeat("n", k)), api.ErrArg)
		}
	})
	need(t, "Seek", n.Seek(strings.Repeat("\x00", 32)), api.OK)
	if m, is := n.Manifest(); is || m != (api.Manifest{}) || n.Done() || n.Have() != "" || len(n.Whole()) != 0 {
		t.Errorf("it has a manifest: %v, %q", m, n.Have())
	}
	needOut(t, "Seek", n)
}

// 20.1: a node that is greeted is sent MsgHello, each time; of the name that is sought, too.
func TestGreet(t *testing.T) {
	for _, n := range []*Node{owning(t, config()), fetching(t, config()), seeking(t, config())} {
		for _, node := range []int{1, 15, 6, 8, 1} {
			need(t, "Greet", n.Greet(node), api.OK)
		}
		h := hello(t, place())
		needOut(t, "Greet", n, to{1, h}, to{15, h}, to{6, h}, to{8, h}, to{1, h})
		meet(t, n, 2)
		need(t, "Greet of a peer", n.Greet(2), api.OK)
		needOut(t, "Greet of a peer", n, to{2, h})
		if len(n.Peers()) != 1 {
			t.Errorf("who is greeted is there: %v", n.Peers())
		}
	}
}

// 20.1: Greet's errors, in order; none is counted.
func TestGreetOfWrong(t *testing.T) {
	n := fetching(t, config())
	meet(t, n, 4)
	say(t, n, 4, api.Msg{Kind: api.MsgProof, Digest: strings.Repeat("x", 32)}, api.ErrBad)
	for _, x := range []*Node{n, idle(t, config())} {
		uncounted(t, "a wrong Greet", x, func() {
			for _, node := range []int{me, 0, -1, 16, 257, math.MaxInt, math.MinInt} {
				need(t, "Greet", x.Greet(node), api.ErrArg)
			}
			if x == n {
				need(t, "Greet of who was banned", x.Greet(4), api.ErrBan)
			} else {
				need(t, "Greet of an idle one", x.Greet(4), api.ErrNone)
			}
		})
	}
}

// 20.4: what a node answers while it fetches, block by block.
func TestAnswers(t *testing.T) {
	m, w := published(t)
	n := fetching(t, config())
	meet(t, n, 3)
	for i := range all {
		digest, path, is := n.Proof(i)
		if is || digest != "" || len(path) != 0 {
			t.Errorf("there is a proof of %d", i)
		}
	}
	say(t, n, 3, proof(t, 2), api.OK)
	if digest, path, is := n.Proof(2); !is || digest != merkle.Leaf(w[2]) || !merkle.Check(m.Root, all, 2, digest, path) || n.Have() != set(t) {
		t.Errorf("a proof without its block: %x, %v", digest, is)
	}
	say(t, n, 3, one(t, 1), api.OK)
	if n.Kept() == 0 || n.Have() != set(t) {
		t.Errorf("a block without its proof: %d are kept, %x", n.Kept(), n.Have())
	}
	give(t, n, 3, 2, 1)
	if !slices.Equal(n.Whole()[:4], []string{"", w[1], w[2], ""}) || n.Done() {
		t.Errorf("Whole: %q", n.Whole())
	}
	if f, e := n.File(); f != "" || e != api.ErrNone {
		t.Errorf("File: %q, %v", f, e)
	}
	give(t, n, 3, 0, 3)
	if f, e := n.File(); f != file || e != api.OK || !n.Done() || n.Owns() {
		t.Errorf("File: %q, %v", f, e)
	}
	if _, _, is := n.Proof(all); is {
		t.Errorf("there is a proof of no block")
	}
}

// 20.4: what a node without a manifest answers.
func TestAnswersOfNothing(t *testing.T) {
	for _, n := range []*Node{idle(t, config()), seeking(t, config())} {
		m, is := n.Manifest()
		f, e := n.File()
		need(t, "File", e, api.ErrNone)
		if is || m != (api.Manifest{}) || f != "" || n.Owns() || n.Done() || len(n.Whole()) != 0 || n.Have() != "" || n.Kept() != 0 {
			t.Errorf("it has %v, %q, %q", m, f, n.Whole())
		}
	}
}

// 20.4: no answer shares memory with a node, or with another answer.
func TestAnswersAreCopies(t *testing.T) {
	for _, n := range []*Node{owning(t, config()), fetching(t, config())} {
		meet(t, n, 3)
		if !n.Owns() {
			give(t, n, 3, 0)
		}
		need(t, "Greet", n.Greet(4), api.OK)
		unchanged(t, "a change of an answer", n, func() {
			n.Whole()[0] = "other"
			_, path, _ := n.Proof(0)
			path[0] = "other"
			n.Peers()[0].Have = "other"
		})
		l := n.Out()
		need(t, "Greet", n.Greet(5), api.OK)
		if len(l) != 1 || l[0].To != 4 {
			t.Errorf("Out is changed: %v", l)
		}
	}
}

// 20.4: proofs of an owner, where there is no such block.
func TestNoProof(t *testing.T) {
	for _, n := range []*Node{owning(t, config()), fetching(t, config()), seeking(t, config()), idle(t, config())} {
		for _, i := range []int{-1, all, 255, 256, math.MaxInt, math.MinInt} {
			if digest, path, is := n.Proof(i); is || digest != "" || len(path) != 0 {
				t.Errorf("Proof(%d): %x, %x", i, digest, path)
			}
		}
	}
}

// 20.4: errors that are none are counted never.
func TestDropsOfWrong(t *testing.T) {
	n := owning(t, config())
	need(t, "Take", n.Take(1, junk), api.ErrForm)
	for _, e := range []api.Errno{api.OK, -1, 11, 12, math.MaxInt, math.MinInt} {
		if n.Drops(e) != 0 {
			t.Errorf("Drops(%d): %d", e, n.Drops(e))
		}
	}
	if n.Drops(api.ErrForm) != 1 {
		t.Errorf("Drops(ErrForm): %d", n.Drops(api.ErrForm))
	}
}

// 20.4: a nil node.
func TestNil(t *testing.T) {
	var n *Node
	m, _ := published(t)
	k, e := n.Publish(file, want())
	if k != (api.Manifest{}) {
		t.Errorf("Publish: %v", k)
	}
	need(t, "Publish", e, api.ErrArg)
	need(t, "Fetch", n.Fetch(m), api.ErrArg)
	need(t, "Seek", n.Seek(manifest.Name(m)), api.ErrArg)
	need(t, "Greet", n.Greet(1), api.ErrArg)
	need(t, "Take", n.Take(1, junk), api.ErrArg)
	need(t, "Tick", n.Tick(0), api.ErrArg)
	k, is := n.Manifest()
	digest, path, has := n.Proof(0)
	f, e := n.File()
	need(t, "File", e, api.ErrArg)
	if is || k != (api.Manifest{}) || has || digest != "" || len(path) != 0 || f != "" {
		t.Errorf("a nil node has %v, %x, %q", k, digest, f)
	}
	if n.Owns() || n.Done() || n.Banned(1) || n.Kept() != 0 || n.Time() != 0 || n.Drops(api.ErrArg) != 0 || n.Have() != "" {
		t.Errorf("a nil node is something")
	}
	if len(n.Out()) != 0 || len(n.Whole()) != 0 || len(n.Peers()) != 0 {
		t.Errorf("a nil node has something")
	}
}

// The chapter's example.
func TestExample(t *testing.T) {
	a, b := New(1, api.Place{}, config()), New(2, api.Place{X: 9}, config())
	m, e := a.Publish("hello", want())
	need(t, "Publish", e, api.OK)
	need(t, "Fetch", b.Fetch(m), api.OK)
	need(t, "Greet", b.Greet(1), api.OK)
	for i := range 40 {
		for range 5 {
			for _, g := range b.Out() {
				a.Take(2, g.Text)
			}
			for _, g := range a.Out() {
				b.Take(1, g.Text)
			}
		}
		a.Tick(i)
		b.Tick(i)
	}
	if f, e := b.File(); f != "hello" || e != api.OK || !b.Done() || a.Banned(2) || b.Banned(1) {
		t.Errorf("File: %q, %v", f, e)
	}
}
