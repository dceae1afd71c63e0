package swarm

import (
	"math"
	"slices"
	"strings"
	"testing"

	"mosaic/api"
	"mosaic/manifest"
	"mosaic/node"
)

// 22.1: there is no swarm of a setup that may not be.
func TestNoSwarm(t *testing.T) {
	for what, change := range map[string]func(s *api.Setup){
		"no roles":         func(s *api.Setup) { s.Roles, s.Places = nil, nil },
		"empty lists":      func(s *api.Setup) { s.Roles, s.Places = []int{}, []api.Place{} },
		"too many roles":   func(s *api.Setup) { s.Roles, s.Places = make([]int, 7), make([]api.Place, 7) },
		"seven fetch":      func(s *api.Setup) { s.Roles, s.Places = []int{0, 1, 1, 1, 1, 1, 1}, make([]api.Place, 7) },
		"first fetches":    func(s *api.Setup) { s.Roles[0] = api.RoleFetches },
		"first seeks":      func(s *api.Setup) { s.Roles[0] = api.RoleSeeks },
		"first lies":       func(s *api.Setup) { s.Roles[0] = api.RoleLies },
		"first is nothing": func(s *api.Setup) { s.Roles[0] = -1 },
		"second owns":      func(s *api.Setup) { s.Roles[1] = api.RoleOwns },
		"last owns":        func(s *api.Setup) { s.Roles[3] = api.RoleOwns },
		"role 4":           func(s *api.Setup) { s.Roles[2] = 4 },
		"role -1":          func(s *api.Setup) { s.Roles[2] = -1 },
		"wide role":        func(s *api.Setup) { s.Roles[1] = 1<<32 + 1 },
		"few places":       func(s *api.Setup) { s.Places = s.Places[:3] },
		"no places":        func(s *api.Setup) { s.Places = nil },
		"many places":      func(s *api.Setup) { s.Places = append(s.Places, api.Place{}) },
		"owner's place":    func(s *api.Setup) { s.Places[0].X = api.MaxPlace + 1 },
		"fetcher's place":  func(s *api.Setup) { s.Places[1].Y = -api.MaxPlace - 1 },
		"liar's place":     func(s *api.Setup) { s.Places[2].X = math.MinInt },
		"seeker's place":   func(s *api.Setup) { s.Places[3].Y = math.MaxInt },
		"no file":          func(s *api.Setup) { s.File = "" },
		"long file":        func(s *api.Setup) { s.File, s.Size = strings.Repeat("f", 4097), 64 },
		"many blocks":      func(s *api.Setup) { s.File, s.Size = strings.Repeat("f", 97), 1 },
		"size 0":           func(s *api.Setup) { s.Size = 0 },
		"size 65":          func(s *api.Setup) { s.Size = 65 },
		"seed -1":          func(s *api.Setup) { s.Seed = -1 },
		"great seed":       func(s *api.Setup) { s.Seed = api.MaxSeed + 1 },
		"no code":          func(s *api.Setup) { s.Code = api.Code{} },
		"code's Eps":       func(s *api.Setup) { s.Code.Eps = api.Ratio{N: 2, D: 4} },
		"code's Q":         func(s *api.Setup) { s.Code.Q = 9 },
		"code's F":         func(s *api.Setup) { s.Code.F = 65 },
		"no config":        func(s *api.Setup) { s.Config = api.Config{} },
		"room":             func(s *api.Setup) { s.Config.Room = 16 },
		"no room":          func(s *api.Setup) { s.Config.Room = 0 },
		"timeout":          func(s *api.Setup) { s.Config.Timeout = 0 },
		"slots":            func(s *api.Setup) { s.Config.Slots = 9 },
		"quota":            func(s *api.Setup) { s.Config.Quota = 27 },
		"out":              func(s *api.Setup) { s.Config.Out = 301 },
	} {
		s := setup(api.RoleOwns, api.RoleFetches, api.RoleLies, api.RoleSeeks)
		change(&s)
		if x := New(s); x != nil {
			t.Errorf("%s: there is a swarm", what)
		}
	}
}

// 22.1: a swarm has nodes as the roles say, of which nothing has happened.
func TestNew(t *testing.T) {
	s := setup(api.RoleOwns, api.RoleFetches, api.RoleLies, api.RoleSeeks, api.RoleLies, api.RoleFetches)
	x := made(t, s)
	m, whole, _ := manifest.Publish(s.File, manifest.Want{Size: s.Size, Seed: s.Seed, Code: s.Code})
	if x.Manifest() != m || x.Size() != 6 || x.Done() || x.Lost() != 0 || len(x.Mails()) != 0 || len(x.Sent()) != 0 {
		t.Errorf("%v, %d nodes, %v, %d lost, %v, %v", x.Manifest(), x.Size(), x.Done(), x.Lost(), x.Mails(), x.Sent())
	}
	for i, role := range append([]int{api.RoleLies}, append(s.Roles, api.RoleLies)...) {
		n := x.Node(i)
		if (n == nil) != (role == api.RoleLies) {
			t.Fatalf("node %d of role %d: %v", i, role, n)
		}
		if n == nil {
			continue
		}
		want := node.New(i, s.Places[i-1], s.Config)
		switch role {
		case api.RoleOwns:
			want.Publish(s.File, manifest.Want{Size: s.Size, Seed: s.Seed, Code: s.Code})
		case api.RoleFetches:
			want.Fetch(m)
		case api.RoleSeeks:
			want.Seek(manifest.Name(m))
		}
		if nodeState(n) != nodeState(want) || n.Time() != 0 {
			t.Errorf("node %d: %s, want %s", i, nodeState(n), nodeState(want))
		}
		// What a node tells about itself says its number, its place and its name.
		n.Greet(15)
		want.Greet(15)
		if got, want := n.Out(), want.Out(); !slices.Equal(got, want) {
			t.Errorf("node %d sends %v, want %v", i, got, want)
		}
	}
	if !slices.Equal(x.Node(1).Whole(), whole) {
		t.Errorf("the first has %q", x.Node(1).Whole())
	}
}

// 22.1: the bounds of a setup.
func TestNewAtBounds(t *testing.T) {
	one := made(t, setup(api.RoleOwns))
	if one.Size() != 1 || !one.Done() {
		t.Errorf("%d nodes, %v", one.Size(), one.Done())
	}
	liars := made(t, setup(0, 3, 3, 3, 3, 3))
	if liars.Size() != 6 || !liars.Done() || liars.Node(1) == nil || liars.Node(6) != nil {
		t.Errorf("%d nodes, %v", liars.Size(), liars.Done())
	}
	s := setup(0, 1, 2, 3, 2, 1)
	s.File, s.Size, s.Seed = strings.Repeat("f", 4096), 64, api.MaxSeed
	s.Places[5] = api.Place{X: api.MaxPlace, Y: -api.MaxPlace}
	s.Config = api.Config{Room: 1, Timeout: api.MaxTick, Slots: 0, Quota: 26, Out: 1}
	made(t, s)
}

// 22.3: of what is no node, and of a liar, there is none.
func TestNode(t *testing.T) {
	x := small(t)
	for _, i := range []int{1, 2, 4} {
		if x.Node(i) == nil || x.Node(i) != x.Node(i) {
			t.Errorf("node %d is not there", i)
		}
	}
	for _, i := range []int{0, 3, 5, 6, 7, -1, math.MaxInt, math.MinInt, 1<<32 + 1} {
		if x.Node(i) != nil {
			t.Errorf("node %d is there", i)
		}
	}
	if x.Node(1) == x.Node(2) || x.Node(1) == small(t).Node(1) {
		t.Error("nodes are shared")
	}
}

// 22.3: a nil swarm answers ErrArg, nothing, false, nil.
func TestNil(t *testing.T) {
	var x *Swarm
	for kind := range 9 {
		do(t, x, api.Deed{Kind: kind, Node: 1, To: 2}, api.ErrArg)
	}
	if n, done := x.Calm(); n != 0 || done {
		t.Errorf("Calm: %d, %v", n, done)
	}
	if x.Manifest() != (api.Manifest{}) || x.Node(1) != nil || x.Size() != 0 || len(x.Mails()) != 0 || len(x.Sent()) != 0 || x.Lost() != 0 || x.Done() {
		t.Error("there is something in a nil one")
	}
}

// 22.3: Done asks all nodes, and no liar.
func TestDone(t *testing.T) {
	x := small(t)
	if x.Done() {
		t.Error("it is done at once")
	}
	give(t, x, 2)
	if x.Done() || !x.Node(2).Done() {
		t.Error("it is done ahead of one that seeks")
	}
	need(t, "Fetch", x.Node(4).Fetch(x.Manifest()), api.OK)
	give(t, x, 4)
	if !x.Done() {
		t.Error("it is not done")
	}
}

// R3: what a setup is changed to afterwards does not count, and what is answered is new.
func TestMemory(t *testing.T) {
	s := setup(api.RoleOwns, api.RoleFetches, api.RoleLies, api.RoleSeeks)
	x, y := made(t, s), small(t)
	for i := range s.Roles {
		s.Roles[i], s.Places[i] = 9, api.Place{X: 999}
	}
	for _, z := range []*Swarm{x, y} {
		do(t, z, api.Deed{Kind: api.DeedGreet, Node: 2, To: 1}, api.OK)
		do(t, z, lie(3, 2, "text"), api.OK)
		do(t, z, api.Deed{Kind: api.DeedCome}, api.OK)
	}
	if state(x) != state(y) || len(x.Mails()) < 2 || len(x.Sent()) < 2 {
		t.Errorf("%s\nwant\n%s", state(x), state(y))
	}
	unchanged(t, "who changes answers", x, func() {
		for i := range x.Mails() {
			x.Mails()[i] = api.Mail{}
		}
		for i := range x.Sent() {
			x.Sent()[i] = api.Gram{}
		}
	})
	before := x.Sent()
	kept := slices.Clone(before)
	do(t, x, api.Deed{Kind: api.DeedGreet, Node: 4, To: 1}, api.OK)
	if !slices.Equal(before, kept) || len(x.Sent()) != len(kept)+1 {
		t.Errorf("what was answered has changed: %v", before)
	}
}
