package net

import (
	"math/rand"
	"slices"
	"strings"
	"testing"

	"mosaic/api"
)

// model is a net by the chapter's words: a list of mails.
type model struct {
	room, given int
	l           []api.Mail
}

func (m *model) find(id int) int {
	return slices.IndexFunc(m.l, func(x api.Mail) bool { return x.ID == id })
}

func (m *model) send(g api.Gram) (int, api.Errno) {
	if g.From < 1 || g.From > 15 || g.To < 1 || g.To > 15 || g.From == g.To || len(g.Text) > 400 {
		return 0, api.ErrArg
	}
	if len(m.l) == m.room {
		return 0, api.ErrFull
	}
	m.given++
	m.l = append(m.l, api.Mail{ID: m.given, Gram: g})
	return m.given, api.OK
}

func (m *model) remove(id int) (api.Gram, api.Errno) {
	i := m.find(id)
	if i < 0 {
		return api.Gram{}, api.ErrNone
	}
	g := m.l[i].Gram
	m.l = slices.Delete(m.l, i, i+1)
	return g, api.OK
}

func (m *model) twice(id int) (int, api.Errno) {
	i := m.find(id)
	if i < 0 {
		return 0, api.ErrNone
	}
	return m.send(m.l[i].Gram)
}

// tally is what was done to a net.
type tally struct {
	sent, doubled, came, lost, full, none int
	texts                                 map[api.Gram]int // how often a datagram was sent or doubled, but did not come, nor was lost
}

// step does one thing to both.
func step(t *testing.T, r *rand.Rand, n *Net, m *model, x *tally) {
	t.Helper()
	id := r.Intn(m.given+2) - r.Intn(2)
	if i := r.Intn(1000); len(m.l) > 0 && i%3 > 0 {
		id = n.Nth(i)
		if want := m.l[i%len(m.l)].ID; id != want {
			t.Fatalf("Nth(%d) = %d, want %d", i, id, want)
		}
	}
	var e api.Errno
	switch r.Intn(6) {
	case 0, 1, 2:
		g := api.Gram{From: r.Intn(17), To: r.Intn(17), Text: strings.Repeat("x", r.Intn(410))}
		got, e1 := n.Send(g)
		want, e2 := m.send(g)
		if e = e1; got != want || e1 != e2 {
			t.Fatalf("Send(%v): %d, %v, want %d, %v", g, got, e1, want, e2)
		}
		if e == api.OK {
			x.sent++
			x.texts[g]++
		}
	case 3:
		got, e1 := n.Take(id)
		want, e2 := m.remove(id)
		if e = e1; got != want || e1 != e2 {
			t.Fatalf("Take(%d): %v, %v, want %v, %v", id, got, e1, want, e2)
		}
		if e == api.OK {
			x.came++
			x.texts[got]--
			if x.texts[got] < 0 {
				t.Fatalf("what came was not sent: %v", got)
			}
		}
	case 4:
		e = n.Lose(id)
		g, want := m.remove(id)
		if e != want {
			t.Fatalf("Lose(%d): %v, want %v", id, e, want)
		}
		if e == api.OK {
			x.lost++
			x.texts[g]--
		}
	case 5:
		got, e1 := n.Twice(id)
		want, e2 := m.twice(id)
		if e = e1; got != want || e1 != e2 {
			t.Fatalf("Twice(%d): %d, %v, want %d, %v", id, got, e1, want, e2)
		}
		if e == api.OK {
			x.doubled++
			x.texts[m.l[len(m.l)-1].Gram]++
		}
	}
	switch e {
	case api.ErrFull:
		x.full++
	case api.ErrNone:
		x.none++
	}
}

// 21.1 to 21.3: whatever is done, a net is as the chapter's words say; what comes was sent, and the counts come out.
func TestAgainstModel(t *testing.T) {
	r := rand.New(rand.NewSource(21))
	full, none, came := 0, 0, 0
	for range 200 {
		m := &model{room: 1 + r.Intn(30)}
		n := New(m.room)
		x := &tally{texts: map[api.Gram]int{}}
		for range 300 {
			step(t, r, n, m, x)
			if n.Len() != x.sent+x.doubled-x.came-x.lost || n.Len() > m.room {
				t.Fatalf("%d are under way: %+v", n.Len(), *x)
			}
			if !slices.Equal(n.List(), m.l) {
				t.Fatalf("List: %v, want %v", n.List(), m.l)
			}
		}
		needMails(t, "model", n, m.l...)
		full, none, came = full+x.full, none+x.none, came+x.came
	}
	if full < 1000 || none < 1000 || came < 1000 {
		t.Errorf("%d full, %d none, %d came: take others", full, none, came)
	}
}
