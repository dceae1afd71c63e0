package tracker

import (
	"cmp"
	"math"
	"math/rand"
	"slices"
	"testing"

	"mosaic/api"
	"mosaic/plane"
)

// model is a table by the chapter's words: a list of notes, in the order in which they came.
type model struct {
	room  int
	notes []Note
}

func (m *model) counting(now int) []Note {
	var l []Note
	for _, n := range m.notes {
		if now >= 0 && now <= last && n.Until >= now {
			l = append(l, n)
		}
	}
	return l
}

func (m *model) names(now int) []string {
	var l []string
	for _, n := range m.counting(now) {
		l = append(l, n.Name)
	}
	slices.Sort(l)
	return slices.Compact(l)
}

func (m *model) nodes(name string, now int) []Note {
	l := slices.DeleteFunc(m.counting(now), func(n Note) bool { return n.Name != name })
	slices.SortFunc(l, func(a, b Note) int { return a.Node - b.Node })
	return l
}

func (m *model) drop(name string, node int) {
	m.notes = slices.DeleteFunc(m.notes, func(n Note) bool { return n.Name == name && n.Node == node })
}

func (m *model) announce(x Note, now int) api.Errno {
	if now < 0 || now > last || len(x.Name) != 32 || x.Node < 1 || x.Node > 15 || x.At.X < -top || x.At.X > top || x.Until < now || x.Until > last {
		return api.ErrArg
	}
	names := m.names(now)
	if !slices.Contains(names, x.Name) && len(names) == m.room {
		return api.ErrFull
	}
	m.notes = m.counting(now)
	m.drop(x.Name, x.Node)
	m.notes = append(m.notes, x)
	return api.OK
}

func (m *model) leave(name string, node, now int) api.Errno {
	if now < 0 || now > last {
		return api.ErrArg
	}
	if !slices.ContainsFunc(m.nodes(name, now), func(n Note) bool { return n.Node == node }) {
		return api.ErrNone
	}
	m.drop(name, node)
	return api.OK
}

// find is the numbers of the nearest nodes of a name that is there.
func (m *model) find(name string, at api.Place, k, now int) []int {
	far := func(n Note) int {
		return (n.At.X-at.X)*(n.At.X-at.X) + (n.At.Y-at.Y)*(n.At.Y-at.Y)
	}
	l := m.nodes(name, now)
	slices.SortFunc(l, func(a, b Note) int { return cmp.Or(far(a)-far(b), a.Node-b.Node) })
	var nodes []int
	for i := 0; i < len(l) && i < k; i++ {
		nodes = append(nodes, l[i].Node)
	}
	return nodes
}

// compare asks that both tell the same at a time.
func compare(t *testing.T, x *Table, m *model, at api.Place, now int) {
	t.Helper()
	if !slices.Equal(x.Names(now), m.names(now)) || x.Len(now) != len(m.names(now)) {
		t.Fatalf("at %d there are %q, want %q", now, x.Names(now), m.names(now))
	}
	for name := range 7 {
		name := named(name)
		if got, want := x.Nodes(name, now), m.nodes(name, now); !slices.Equal(got, want) {
			t.Fatalf("at %d of %s: %v, want %v", now, name, got, want)
		}
		for _, k := range []int{0, 1, 3, 15} {
			got, e := x.Find(name, at, k, now)
			want, f := m.find(name, at, k, now), api.OK
			if now < 0 {
				f = api.ErrArg
			} else if len(m.nodes(name, now)) == 0 {
				f = api.ErrNone
			}
			if !slices.Equal(got, want) || e != f {
				t.Fatalf("Find(%s, %v, %d, %d) = %v, %v, want %v, %v", name, at, k, now, got, e, want, f)
			}
		}
	}
}

// 31.1, 31.2, 31.4: whatever is done, at times that go on and back, a table is as the chapter's words say.
func TestAgainstModel(t *testing.T) {
	chance := rand.New(rand.NewSource(31))
	seen := map[api.Errno]int{}
	for range 40 {
		m := &model{room: 1 + chance.Intn(6)}
		x := New(m.room)
		for k := range 150 {
			now := k/3 + chance.Intn(8) - 3
			name, node := named(chance.Intn(7)), chance.Intn(17)
			if chance.Intn(4) == 0 {
				want := m.leave(name, node, now)
				need(t, "Leave", x.Leave(name, node, now), want)
			} else {
				n := note(name, node, chance.Intn(6), now+chance.Intn(15)-1)
				want := m.announce(n, now)
				seen[want]++
				need(t, "Announce", x.Announce(n, now), want)
			}
			at := api.Place{X: chance.Intn(6), Y: chance.Intn(3)}
			for _, then := range []int{0, now, now - 2, now + 1, now + 5} {
				compare(t, x, m, at, then)
			}
		}
	}
	if seen[api.OK] < 500 || seen[api.ErrFull] < 500 || seen[api.ErrArg] < 500 {
		t.Errorf("too few of a kind: %v", seen)
	}
}

// 31.4: who was announced counts up to his time, whoever else is announced.
func TestCountsUpToHisTime(t *testing.T) {
	x, a := New(2), named(1)
	for node := 1; node <= 15; node++ {
		announce(t, x, 0, note(a, node, node, 4*node))
	}
	for now := range 70 {
		announce(t, x, now, note(named(2), 1+now%15, 0, now))
		var want []int
		for node := 1; node <= 15; node++ {
			if now <= 4*node {
				want = append(want, node)
			}
		}
		has(t, x, a, now, want...)
	}
}

// 31.4: none that counts and is not told is nearer than one that is told.
func TestWhatIsFoundIsNearest(t *testing.T) {
	chance := rand.New(rand.NewSource(314))
	some := func() api.Place { return api.Place{X: chance.Intn(9), Y: chance.Intn(9)} }
	for range 50 {
		x, a := New(1), named(1)
		for node := 1; node <= 15; node++ {
			announce(t, x, 0, Note{Name: a, Node: node, At: some(), Until: chance.Intn(9)})
		}
		at, now := some(), chance.Intn(6)
		for k := range 16 {
			told, rest := 0, math.MaxInt
			l, _ := x.Find(a, at, k, now)
			for _, n := range x.Nodes(a, now) {
				far := plane.Dist(n.At, at)
				if slices.Contains(l, n.Node) {
					told = max(told, far)
				} else {
					rest = min(rest, far)
				}
			}
			if told > rest || len(l) > k {
				t.Errorf("of %v, %d at %v: %v", x.Nodes(a, now), k, at, l)
			}
		}
	}
}
