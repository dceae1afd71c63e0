package peers

import (
	"math/rand"
	"slices"
	"strings"
	"testing"

	"mosaic/api"
)

// model is a table by the chapter's words: a list of peers in the order in which they came, and of those who were banned.
type model struct {
	room, timeout int
	there         []api.Peer
	banned        []int
}

func (m *model) find(node int) int {
	return slices.IndexFunc(m.there, func(p api.Peer) bool { return p.Node == node })
}

func (m *model) meet(node int, at api.Place, now int) api.Errno {
	if node < 1 || node > 15 || at.X < -1048576 || at.X > 1048576 || at.Y < -1048576 || at.Y > 1048576 || now < 0 || now > 1099511627776 {
		return api.ErrArg
	}
	if slices.Contains(m.banned, node) {
		return api.ErrBan
	}
	if m.find(node) >= 0 {
		return api.ErrThere
	}
	if len(m.there) == m.room {
		return api.ErrFull
	}
	m.there = append(m.there, api.Peer{Node: node, Place: at, Seen: now})
	return api.OK
}

func (m *model) drop(node int) {
	m.there = slices.DeleteFunc(m.there, func(p api.Peer) bool { return p.Node == node })
}

func (m *model) expire(now int) []int {
	var gone []int
	for node := 1; node <= 15; node++ {
		if i := m.find(node); i >= 0 && now >= 0 && now <= 1099511627776 && m.there[i].Seen+m.timeout < now {
			gone = append(gone, node)
			m.drop(node)
		}
	}
	return gone
}

func (m *model) set(node int, right bool, how func(p *api.Peer)) api.Errno {
	i := m.find(node)
	if !right {
		return api.ErrArg
	}
	if i < 0 {
		return api.ErrNone
	}
	how(&m.there[i])
	return api.OK
}

func (m *model) list() []api.Peer {
	return slices.SortedFunc(slices.Values(m.there), func(a, b api.Peer) int { return a.Node - b.Node })
}

// step does one thing to both.
func step(t *testing.T, chance *rand.Rand, x *Table, m *model, now int) {
	node := chance.Intn(18) - 1
	on := chance.Intn(2) == 0
	switch chance.Intn(13) {
	case 0, 1, 2:
		at := api.Place{X: chance.Intn(5), Y: []int{0, 7, top, -top, top + 1}[chance.Intn(5)]}
		need(t, "Meet", x.Meet(node, at, now), m.meet(node, at, now))
	case 3, 4:
		need(t, "Hear", x.Hear(node, now), m.set(node, now >= 0 && now <= last, func(p *api.Peer) { p.Seen = max(p.Seen, now) }))
	case 5:
		want := m.set(node, true, func(*api.Peer) {})
		m.drop(node)
		need(t, "Leave", x.Leave(node), want)
	case 6:
		if chance.Intn(20) == 0 {
			want := api.ErrArg
			if node >= 1 && node <= 15 {
				want = api.OK
				m.drop(node)
				m.banned = append(m.banned, node)
			}
			need(t, "Ban", x.Ban(node), want)
		}
	case 7:
		if got, want := x.Expire(now), m.expire(now); !slices.Equal(got, want) {
			t.Errorf("Expire(%d) = %v, want %v", now, got, want)
		}
	case 8:
		have := strings.Repeat("h", chance.Intn(23))
		need(t, "SetHave", x.SetHave(node, have), m.set(node, len(have) <= 20, func(p *api.Peer) { p.Have = have }))
	case 9:
		need(t, "SetWants", x.SetWants(node, on), m.set(node, true, func(p *api.Peer) { p.Wants = on }))
		need(t, "SetOpen", x.SetOpen(node, !on), m.set(node, true, func(p *api.Peer) { p.Open = !on }))
	case 10:
		need(t, "SetOpens", x.SetOpens(node, on), m.set(node, true, func(p *api.Peer) { p.Opens = on }))
	case 11:
		n := []int{-1, 0, 1, 77, most / 3, most, most + 1}[chance.Intn(7)]
		need(t, "Count", x.Count(node, n), m.set(node, n >= 0 && n <= most, func(p *api.Peer) { p.Now = min(p.Now+n, most) }))
	case 12:
		x.Roll()
		for i := range m.there {
			m.there[i].Rate, m.there[i].Now = m.there[i].Now, 0
		}
	}
}

// 18.1 to 18.5: whatever is done, a table is as the chapter's words say: never more than room, who was banned never again, who is heard in time always.
func TestAgainstModel(t *testing.T) {
	chance := rand.New(rand.NewSource(18))
	for range 300 {
		m := &model{room: 1 + chance.Intn(15), timeout: 1 + chance.Intn(30)}
		x := New(m.room, m.timeout)
		for k := range 300 {
			step(t, chance, x, m, k/4+chance.Intn(12)-4)
			if l := x.List(); !slices.Equal(l, m.list()) || x.Len() != len(l) || len(l) > m.room {
				t.Fatalf("there are %v, want %v", l, m.list())
			}
			for node := range 17 {
				p, is := x.Get(node)
				if i := m.find(node); is != (i >= 0) || is && p != m.there[i] || !is && p != (api.Peer{}) {
					t.Fatalf("Get(%d) = %v, %v", node, p, is)
				}
				if x.Banned(node) != slices.Contains(m.banned, node) || x.Banned(node) && is {
					t.Fatalf("Banned(%d): %v", node, x.Banned(node))
				}
			}
		}
	}
}

// 18.5: who is heard at least each timeout stays, whoever else goes.
func TestWhoIsHeardStays(t *testing.T) {
	x := New(2, 7)
	x.Meet(3, place(), 0)
	x.Meet(4, place(), 0)
	for now := 0; now <= 700; now++ {
		if now%7 == 0 {
			need(t, "Hear", x.Hear(3, now), api.OK)
		}
		for _, node := range x.Expire(now) {
			if node != 4 || now != 8 {
				t.Errorf("%d goes at %d", node, now)
			}
		}
	}
	if x.Len() != 1 {
		t.Errorf("there are %v", x.List())
	}
}
