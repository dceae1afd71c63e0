package swarm

import (
	"math"
	"slices"
	"strings"
	"testing"

	"mosaic/api"
	"mosaic/manifest"
	"mosaic/wire"
)

// needCalm lets a swarm go on, and asks for its rounds and whether it is done.
func needCalm(t *testing.T, x *Swarm, rounds int, done bool) {
	t.Helper()
	if n, is := x.Calm(); n != rounds || is != done || x.Done() != done {
		t.Errorf("Calm: %d, %v, want %d, %v", n, is, rounds, done)
	}
	if len(x.Mails()) != 0 {
		t.Errorf("behind Calm %v are under way", x.Mails())
	}
}

// needFiles asks that all nodes have the file, and that there are some.
func needFiles(t *testing.T, x *Swarm, file string) {
	t.Helper()
	for i := 1; i <= x.Size(); i++ {
		if n := x.Node(i); n != nil {
			if f, e := n.File(); f != file || e != api.OK {
				t.Errorf("the file of %d: %q, %v, want %q", i, f, e, file)
			}
		}
	}
}

// ofKind are those of what was sent that are of a kind.
func ofKind(x *Swarm, kind int) []api.Gram {
	return slices.DeleteFunc(x.Sent(), func(g api.Gram) bool {
		m, _ := wire.Read(g.Text)
		return m.Kind != kind
	})
}

// 22.2: Rounds, and its edges.
func TestRounds(t *testing.T) {
	for all, want := range map[int]int{
		0: 60, -1: 60, math.MinInt: 60, 1: 71, 2: 84, 3: 99, 10: 260, 159: 60 + 1590 + 159*159,
		160: 27260, 161: 27260, math.MaxInt: 27260, 1 << 32: 27260, -(1 << 32): 60,
	} {
		if got := Rounds(all); got != want {
			t.Errorf("Rounds(%d) = %d, want %d", all, got, want)
		}
	}
}

// 22.2: who is done at once needs no round; who owns greets no one, liars are not greeted.
func TestCalmAtOnce(t *testing.T) {
	for _, roles := range [][]int{{0}, {0, 3}, {0, 3, 3, 3, 3, 3}} {
		x := made(t, setup(roles...))
		needCalm(t, x, 0, true)
		if len(x.Sent()) != 0 || x.Node(1).Time() != 0 {
			t.Errorf("%v: %v were sent, the time is %d", roles, x.Sent(), x.Node(1).Time())
		}
	}
}

// 22.2: what is under way comes once more, also without a round; and greetings are sent also where all are done.
func TestCalmWhenDone(t *testing.T) {
	x := made(t, setup(api.RoleOwns, api.RoleFetches, api.RoleLies))
	give(t, x, 2)
	do(t, x, lie(3, 1, "text"), api.OK)
	needCalm(t, x, 0, true)
	if x.Node(1).Drops(api.ErrForm) != 1 {
		t.Error("what the liar said did not come")
	}
	if a, b := x.Node(1).Peers(), x.Node(2).Peers(); len(a) != 1 || len(b) != 1 || a[0].Node != 2 || b[0].Node != 1 {
		t.Errorf("1 knows %v, 2 knows %v", a, b)
	}
}

// 22.2: each node that does not own greets every other one but liars, ahead of all else, though it has room for one datagram alone.
func TestCalmGreets(t *testing.T) {
	for _, out := range []int{300, 1} {
		s := setup(api.RoleOwns, api.RoleFetches, api.RoleLies, api.RoleSeeks, api.RoleFetches)
		s.Config.Out = out
		x := made(t, s)
		x.Calm()
		want := []int{2, 1, 2, 4, 2, 5, 4, 1, 4, 2, 4, 5, 5, 1, 5, 2, 5, 4}
		var got []int
		for _, g := range x.Sent()[:len(want)/2] {
			if m, e := wire.Read(g.Text); e != api.OK || m.Kind != api.MsgHello {
				t.Errorf("%v is sent", m)
			}
			got = append(got, g.From, g.To)
		}
		if !slices.Equal(got, want) {
			t.Errorf("from and to: %v, want %v", got, want)
		}
	}
}

// 22.2: how many rounds there were is the lot of the ticks: the owner chooses first at the fourth tick.
func TestCalmLot(t *testing.T) {
	for fetchers := 1; fetchers <= 5; fetchers++ {
		s := setup(append([]int{api.RoleOwns}, []int{1, 1, 1, 1, 1}[:fetchers]...)...)
		s.Config.Slots = 0
		x := made(t, s)
		x.Calm()
		l := slices.DeleteFunc(ofKind(x, api.MsgOpen), func(g api.Gram) bool { return g.From != 1 })
		if len(l) == 0 || l[0].To != 2+3%fetchers {
			t.Errorf("of %d the first one that is chosen is %v", fetchers, l[:1])
		}
	}
}

// 22.2: in each round all nodes tick once.
func TestCalmTicks(t *testing.T) {
	x := small(t)
	do(t, x, api.Deed{Kind: api.DeedTick, Node: 2}, api.OK)
	n, done := x.Calm()
	if !done || n < 4 || x.Node(1).Time() != n || x.Node(2).Time() != n+1 || x.Node(4).Time() != n {
		t.Errorf("%d rounds, %v; times %d, %d, %d", n, done, x.Node(1).Time(), x.Node(2).Time(), x.Node(4).Time())
	}
	needFiles(t, x, file)
	// Once more: all are done.
	needCalm(t, x, 0, true)
}

// 22.2: who never gets done goes on for just Rounds; how many there were is told also then.
func TestCalmGivesUp(t *testing.T) {
	s := setup(api.RoleOwns, api.RoleFetches)
	s.Config.Timeout = 1 // who was chosen is gone ahead of the next tick but one
	s.Config.Out = 1
	x := made(t, s)
	most := Rounds(manifest.All(x.Manifest()))
	needCalm(t, x, most, false)
	if x.Node(1).Time() != most || x.Node(2).Time() != most {
		t.Errorf("times %d, %d, want %d", x.Node(1).Time(), x.Node(2).Time(), most)
	}
	needCalm(t, x, most, false)
}

// 22.2: what liars have said ahead of Calm comes in it, in the order of the numbers.
func TestCalmComes(t *testing.T) {
	x := made(t, setup(api.RoleOwns, api.RoleFetches, api.RoleLies))
	for _, s := range []string{hello(x), ping(), "text", ping()} {
		do(t, x, lie(3, 1, s), api.OK)
	}
	if _, done := x.Calm(); !done {
		t.Error("it is not done")
	}
	if n := x.Node(1); n.Drops(api.ErrNone) != 0 || n.Drops(api.ErrForm) != 1 {
		t.Errorf("%d of a stranger and %d wrong ones came", n.Drops(api.ErrNone), n.Drops(api.ErrForm))
	}
}

// Example 1.
func TestExample(t *testing.T) {
	x := made(t, setup(api.RoleOwns, api.RoleFetches, api.RoleLies))
	do(t, x, lie(3, 2, hello(x)), api.OK)
	do(t, x, lie(3, 2, wire.Text(api.Msg{Kind: api.MsgCheck, Head: api.Head{Mode: api.ModeOne}, Data: "lie"})), api.OK)
	if _, done := x.Calm(); !done {
		t.Error("it is not done")
	}
	needFiles(t, x, file)
	if x.Node(2).Banned(3) || len(ofKind(x, api.MsgCheck)) == 0 {
		t.Error("for one lie 3 is banned, or no check blocks were sent")
	}
	// With the second blame he is banned.
	y := made(t, setup(api.RoleOwns, api.RoleFetches, api.RoleLies))
	do(t, y, lie(3, 2, hello(y)), api.OK)
	for i := range 2 {
		do(t, y, lie(3, 2, wire.Text(api.Msg{Kind: api.MsgCheck, Head: api.Head{Mode: api.ModeOne, Seed: i}, Data: "lie"})), api.OK)
	}
	if _, done := y.Calm(); !done {
		t.Error("it is not done")
	}
	needFiles(t, y, file)
	if !y.Node(2).Banned(3) {
		t.Error("for two lies 3 is not banned")
	}
}

// 22.4: the greatest file there is, and the most nodes.
func TestGreatest(t *testing.T) {
	s := setup(0, 2, 3, 2, 1, 1)
	s.File, s.Size = strings.Repeat("0123456789", 96*4), 40
	s.Code = api.Code{Eps: api.Ratio{N: 1, D: 1}, Q: 3, F: 20}
	x := made(t, s)
	if all := manifest.All(x.Manifest()); all != api.MaxAll {
		t.Fatalf("%d blocks", all)
	}
	for to := 1; to <= 6; to++ {
		if to != 3 {
			do(t, x, lie(3, to, hello(x)), api.OK)
			for i := range 90 {
				do(t, x, lie(3, to, wire.Text(api.Msg{Kind: api.MsgCheck, Head: api.Head{Mode: api.ModeOne, Seed: i}, Data: strings.Repeat("?", 40)})), api.OK)
			}
		}
	}
	n, done := x.Calm()
	if !done || n > 27260 {
		t.Errorf("%d rounds, %v", n, done)
	}
	needFiles(t, x, s.File)
	if len(x.Sent()) != MaxSent {
		t.Errorf("%d were sent", len(x.Sent()))
	}
}
