package choke

import (
	"math"
	"math/rand"
	"slices"
	"testing"

	"mosaic/api"
)

const top = api.MaxPlace

// some are peers of these rates, at one place, that all want check blocks: 1, 2, and so on.
func some(rates ...int) []api.Peer {
	var l []api.Peer
	for i, rate := range rates {
		l = append(l, api.Peer{Node: i + 1, Wants: true, Rate: rate})
	}
	return l
}

// needTop and needChosen ask for an answer.
func needTop(t *testing.T, l []api.Peer, slots int, at api.Place, want ...int) {
	t.Helper()
	if got, e := Top(l, slots, at); e != api.OK || !slices.Equal(got, want) {
		t.Errorf("Top(%v, %d, %v) = %v, %v, want %v", l, slots, at, got, e, want)
	}
}

func needChosen(t *testing.T, l []api.Peer, slots, lot int, want ...int) {
	t.Helper()
	if got, e := Choose(l, slots, lot, api.Place{}); e != api.OK || !slices.Equal(got, want) {
		t.Errorf("Choose(%v, %d, %d) = %v, %v, want %v", l, slots, lot, got, e, want)
	}
}

// The chapter's example.
func TestExample(t *testing.T) {
	l := some(5, 9, 9, 0)
	needTop(t, l, 2, api.Place{}, 2, 3)
	needChosen(t, l, 2, 3, 2, 3, 4)
	needChosen(t, l, 2, 2, 1, 2, 3)
}

// 19.1: the greatest rates, whatever they are.
func TestTopByRates(t *testing.T) {
	l := some(0, 7, math.MaxInt, -1, math.MinInt, 7, 8)
	for slots, want := range [][]int{{}, {3}, {3, 7}, {2, 3, 7}, {2, 3, 6, 7}, {1, 2, 3, 6, 7}, {1, 2, 3, 4, 6, 7}, {1, 2, 3, 4, 5, 6, 7}, {1, 2, 3, 4, 5, 6, 7}} {
		needTop(t, l, slots, api.Place{X: top, Y: -top}, want...)
	}
}

// 19.1: of one rate those that are nearest to the place; of one distance those of the least numbers.
func TestTopByDistance(t *testing.T) {
	l := some(4, 4, 4, 4, 9, 3)
	for i, p := range []api.Place{{X: 10}, {X: 3, Y: 4}, {X: -5}, {X: 4, Y: 1}, {X: top, Y: top}, {}} {
		l[i].Place = p
	}
	for slots, want := range [][]int{{}, {5}, {4, 5}, {2, 4, 5}, {2, 3, 4, 5}, {1, 2, 3, 4, 5}, {1, 2, 3, 4, 5, 6}} {
		needTop(t, l, slots, api.Place{}, want...)
	}
	needTop(t, l, 2, api.Place{X: -6}, 3, 5)
	needTop(t, l, 2, api.Place{X: 9, Y: -1}, 1, 5)
	needTop(t, l, 1, api.Place{X: -top, Y: -top}, 5)
	// the distance is neither the sum of both ways nor the longer one
	l = some(1, 1, 1)
	l[0].Place, l[1].Place, l[2].Place = api.Place{X: 6, Y: 6}, api.Place{Y: 8}, api.Place{X: 5, Y: -5}
	needTop(t, l, 1, api.Place{}, 3)
	needTop(t, l, 2, api.Place{}, 2, 3)
}

// 19.1: who wants none is not chosen, whatever he sends; nor does it matter who is open.
func TestWhoWantsNone(t *testing.T) {
	l := some(9, 8, 7, 6, 5)
	l[0].Wants, l[3].Wants = false, false
	l[0].Open, l[1].Opens, l[2].Open = true, true, true
	for slots, want := range [][]int{{}, {2}, {2, 3}, {2, 3, 5}, {2, 3, 5}} {
		needTop(t, l, slots, api.Place{}, want...)
	}
	needChosen(t, l, 0, 0, 2)
	needChosen(t, l, 0, 1, 3)
	needChosen(t, l, 0, 2, 5)
	needChosen(t, l, 1, 0, 2, 3)
	needChosen(t, l, 1, 5, 2, 5)
	needChosen(t, l, 3, 4, 2, 3, 5)
	for i := range l {
		l[i].Wants = false
	}
	needTop(t, l, 8, api.Place{})
	needChosen(t, l, 8, 7)
	needChosen(t, nil, 8, 7)
	needChosen(t, []api.Peer{}, 0, 0)
}

// 19.1, 19.3: the lot goes by the others' numbers, not by how they stand, and draws each of them.
func TestLot(t *testing.T) {
	l := some(1, 9, 0, 3, 2, 8)
	for lot, drawn := range []int{1, 3, 4, 5, 1, 3, 4, 5, 1} {
		want := []int{2, 6, drawn}
		slices.Sort(want)
		needChosen(t, l, 2, lot, want...)
	}
	needChosen(t, l, 2, math.MaxInt, 2, 5, 6)
	needChosen(t, l, 2, 1<<40, 1, 2, 6)
	needChosen(t, l, 6, math.MaxInt, 1, 2, 3, 4, 5, 6)
}

// 19.1: as many as there may be, at the edges of what may be.
func TestEdges(t *testing.T) {
	var l []api.Peer
	for node := 1; node <= 15; node++ {
		l = append(l, api.Peer{Node: node, Wants: true, Rate: node, Place: api.Place{X: top, Y: -top}})
	}
	needTop(t, l, 8, api.Place{X: -top, Y: top}, 8, 9, 10, 11, 12, 13, 14, 15)
	needChosen(t, l, 8, 6, 7, 8, 9, 10, 11, 12, 13, 14, 15)
	needChosen(t, l[14:], 0, 0, 15)
}

// wrongLists are lists that may not be.
func wrongLists() [][]api.Peer {
	var l [][]api.Peer
	for _, nodes := range [][]int{{0}, {-1}, {16}, {math.MaxInt}, {math.MinInt}, {256 + 1}, {1<<32 + 1}, {0, 1}, {15, 16}, {1, 1}, {2, 1}, {1, 3, 2}, {1, 2, 2}, {15, 14}, {1, math.MaxInt}, {math.MaxInt, math.MinInt}, {5, 5, 5}} {
		var x []api.Peer
		for _, node := range nodes {
			x = append(x, api.Peer{Node: node})
		}
		l = append(l, x)
	}
	for _, n := range []int{top + 1, -top - 1, math.MaxInt, math.MinInt} {
		for i := range 3 {
			x, y := some(3, 2, 1), some(3, 2, 1)
			x[i].Place.X, y[i].Place.Y = n, n
			y[i].Wants = false
			l = append(l, x, y)
		}
	}
	return append(l, make([]api.Peer, 1000))
}

// 19.1: what may not be, of each argument.
func TestErrors(t *testing.T) {
	need := func(what string, l []int, e api.Errno) {
		t.Helper()
		if e != api.ErrArg || len(l) != 0 {
			t.Errorf("%s: %v, %v", what, l, e)
		}
	}
	both := func(what string, l []api.Peer, slots int, at api.Place) {
		t.Helper()
		got, e := Top(l, slots, at)
		need("Top of "+what, got, e)
		got, e = Choose(l, slots, 0, at)
		need("Choose of "+what, got, e)
	}
	for _, l := range [][]api.Peer{nil, some(3, 2, 1)} {
		for _, slots := range []int{-1, 9, 10, 256, 1 << 32, math.MaxInt, math.MinInt} {
			both("slots", l, slots, api.Place{})
		}
		for _, n := range []int{top + 1, -top - 1, 1 << 32, math.MaxInt, math.MinInt} {
			both("a place", l, 2, api.Place{X: n})
			both("a place", l, 2, api.Place{Y: n})
		}
		for _, lot := range []int{-1, -2, math.MinInt} {
			got, e := Choose(l, 2, lot, api.Place{})
			need("Choose of a lot", got, e)
		}
	}
	for _, l := range wrongLists() {
		both("a list", l, 2, api.Place{})
	}
}

// byDocument are the chosen by the chapter's words: one by one the first of those that are left.
func byDocument(l []api.Peer, slots, lot int, at api.Place) (first, chosen []int) {
	ahead := func(a, b api.Peer) bool {
		far := func(p api.Peer) int {
			x, y := p.Place.X-at.X, p.Place.Y-at.Y
			return x*x + y*y
		}
		if a.Rate != b.Rate {
			return a.Rate > b.Rate
		}
		if far(a) != far(b) {
			return far(a) < far(b)
		}
		return a.Node < b.Node
	}
	var left []api.Peer
	for _, p := range l {
		if p.Wants {
			left = append(left, p)
		}
	}
	for range slots {
		if len(left) == 0 {
			break
		}
		best := 0
		for i := range left {
			if ahead(left[i], left[best]) {
				best = i
			}
		}
		first = append(first, left[best].Node)
		left = slices.Delete(left, best, best+1)
	}
	chosen = slices.Clone(first)
	if len(left) > 0 {
		chosen = append(chosen, left[lot%len(left)].Node)
	}
	slices.Sort(first)
	slices.Sort(chosen)
	return first, chosen
}

// chanceList are peers of few rates and places, so that many are alike.
func chanceList(chance *rand.Rand) []api.Peer {
	var l []api.Peer
	rates, places, kind := 1+chance.Intn(5), 1+chance.Intn(4), chance.Intn(4)
	for node := 1; node <= 15; node++ {
		if chance.Intn(4) < kind {
			l = append(l, api.Peer{Node: node, Wants: chance.Intn(4) > 0, Open: chance.Intn(2) == 0, Rate: chance.Intn(rates), Place: api.Place{X: chance.Intn(places), Y: -chance.Intn(places)}})
		}
	}
	return l
}

// 19.1: the chosen, against those by the chapter's words.
func TestAgainstDocument(t *testing.T) {
	chance := rand.New(rand.NewSource(19))
	for range 20000 {
		l := chanceList(chance)
		slots, lot, at := chance.Intn(9), chance.Intn(40), api.Place{X: chance.Intn(3), Y: chance.Intn(3)}
		given := slices.Clone(l)
		first, chosen := byDocument(l, slots, lot, at)
		needTop(t, l, slots, at, first...)
		if got, e := Choose(l, slots, lot, at); e != api.OK || !slices.Equal(got, chosen) {
			t.Errorf("Choose(%v, %d, %d, %v) = %v, %v, want %v", l, slots, lot, at, got, e, chosen)
		}
		if !slices.Equal(l, given) {
			t.Fatalf("the list is changed: %v, it was %v", l, given)
		}
	}
}

// 19.3: at most one more than the slots, who all want some; none that is not among the top sends more than one of the top; lots draw each of the others.
func TestWhatFollows(t *testing.T) {
	chance := rand.New(rand.NewSource(193))
	for range 3000 {
		l, slots := chanceList(chance), chance.Intn(9)
		first, _ := Top(l, slots, api.Place{})
		least, want, drawn := math.MaxInt, map[int]int{}, map[int]int{}
		for _, p := range l {
			if slices.Contains(first, p.Node) {
				least = min(least, p.Rate)
			}
		}
		for _, p := range l {
			if !p.Wants {
				continue
			}
			want[p.Node] = 1
			if !slices.Contains(first, p.Node) && len(first) > 0 && p.Rate > least {
				t.Errorf("%d sends more than one of %v", p.Node, first)
			}
		}
		for lot := range 15 {
			chosen, _ := Choose(l, slots, lot, api.Place{})
			if len(chosen) > slots+1 || !slices.IsSorted(chosen) {
				t.Errorf("%v are chosen, for %d slots", chosen, slots)
			}
			for _, node := range chosen {
				drawn[node] = 1
				if want[node] == 0 {
					t.Errorf("%d is chosen, and wants none", node)
				}
			}
		}
		if len(drawn) != len(want) {
			t.Errorf("%v want some, %v are chosen by some lot", want, drawn)
		}
	}
}

// needTurns asks for an answer of Turns.
func needTurns(t *testing.T, l []api.Peer, chosen, open, shut []int) {
	t.Helper()
	a, b := Turns(l, chosen)
	if !slices.Equal(a, open) || !slices.Equal(b, shut) {
		t.Errorf("Turns(%v, %v) = %v, %v, want %v, %v", l, chosen, a, b, open, shut)
	}
}

// 19.2: to whom something changes, in their order; who wants what does not matter.
func TestTurns(t *testing.T) {
	l := []api.Peer{{Node: 1}, {Node: 2, Open: true}, {Node: 3, Wants: true}, {Node: 5, Open: true, Wants: true}, {Node: 8}, {Node: 9, Open: true}}
	needTurns(t, l, nil, nil, []int{2, 5, 9})
	needTurns(t, l, []int{}, nil, []int{2, 5, 9})
	needTurns(t, l, []int{2, 5, 9}, nil, nil)
	needTurns(t, l, []int{1, 2, 3, 5, 8, 9}, []int{1, 3, 8}, nil)
	needTurns(t, l, []int{1, 5, 8}, []int{1, 8}, []int{2, 9})
	needTurns(t, l, []int{8, 3, 3, 2, 8}, []int{3, 8}, []int{5, 9})
	needTurns(t, nil, []int{1, 2}, nil, nil)
	needTurns(t, l, []int{0, 4, 16, -1, math.MaxInt}, nil, []int{2, 5, 9})
}

// 19.2: of any lists, also of those of no peers, the order is the list's.
func TestTurnsOfAnyLists(t *testing.T) {
	l := []api.Peer{{Node: 9}, {Node: -3, Open: true}, {Node: 9, Open: true}, {Node: math.MaxInt, Place: api.Place{X: math.MinInt}}, {Node: 2, Open: true}, {Node: 2}, {Open: true}, {}}
	needTurns(t, l, []int{2, math.MaxInt, 9}, []int{9, math.MaxInt, 2}, []int{-3, 0})
	needTurns(t, l, []int{0, -3}, []int{0}, []int{9, 2})
	many, all := make([]api.Peer, 50000), make([]int, 50000)
	for i := range many {
		many[i].Node, all[i] = i, 49999-i
	}
	open, shut := Turns(many, all)
	if len(open) != 50000 || !slices.IsSorted(open) || len(shut) != 0 {
		t.Errorf("of many: %d, %d", len(open), len(shut))
	}
}

// R3: lists that are handed in are not changed, and those that are answered are new.
func TestListsAreNotShared(t *testing.T) {
	l, chosen := some(1, 5, 3, 2), []int{4, 2, 1}
	l[2].Open = true
	given := slices.Clone(l)
	open, shut := Turns(l, chosen)
	first, _ := Top(l, 3, api.Place{})
	all, _ := Choose(l, 3, 0, api.Place{})
	again, _ := Choose(l, 3, 0, api.Place{})
	for _, x := range [][]int{open, shut, first, all} {
		clear(x)
	}
	if !slices.Equal(l, given) || !slices.Equal(chosen, []int{4, 2, 1}) || !slices.Equal(again, []int{1, 2, 3, 4}) {
		t.Errorf("something is shared: %v, %v, %v", l, chosen, again)
	}
}
