package meter

import (
	"math"
	"math/rand"
	"slices"
	"testing"

	"mosaic/api"
)

// shareOf is a share of a quantum, with peers of these weights: 1, 2, and so on.
func shareOf(quantum int, weights ...int) *Share {
	s := NewShare(quantum)
	for i, w := range weights {
		s.Weigh(i+1, w)
	}
	return s
}

// adds lets sizes of a peer wait.
func adds(t *testing.T, s *Share, peer int, sizes ...int) {
	t.Helper()
	for _, size := range sizes {
		need(t, "Add", s.Add(peer, size), api.OK)
	}
}

// turns asks for what a turn sends: peer, size, peer, size, and so on.
func turns(t *testing.T, s *Share, want ...int) {
	t.Helper()
	got, e := s.Turn()
	var l []int
	for _, x := range got {
		l = append(l, x.Row, x.Num)
	}
	if e != api.OK || !slices.Equal(l, want) {
		t.Errorf("a turn sends %v, %v, want %v", l, e, want)
	}
}

// stands asks for how many sizes of a peer wait, and for its credit.
func stands(t *testing.T, s *Share, peer, waits, credit int) {
	t.Helper()
	if s.Waits(peer) != waits || s.Credit(peer) != credit {
		t.Errorf("of %d: %d wait, credit %d; want %d, %d", peer, s.Waits(peer), s.Credit(peer), waits, credit)
	}
}

func wrongPeers() []int {
	return []int{0, -1, 16, 17, 256 + 1, 1<<32 + 1, math.MaxInt, math.MinInt}
}

// 30.2: of which quanta there are shares.
func TestNewShare(t *testing.T) {
	for _, q := range []int{1, 2, 65535, 65536} {
		s := NewShare(q)
		if s == nil {
			t.Fatalf("there is no share of %d", q)
		}
		for peer := range 17 {
			stands(t, s, peer, 0, 0)
		}
		if l, e := s.Turn(); len(l) != 0 || e != api.ErrNone {
			t.Errorf("a turn of nobody: %v, %v", l, e)
		}
	}
	for _, q := range wrongRates() {
		if NewShare(q) != nil {
			t.Errorf("there is a share of %d", q)
		}
	}
}

// The chapter's example.
func TestExample(t *testing.T) {
	s := NewShare(10)
	s.Weigh(3, 1)
	s.Weigh(4, 2)
	adds(t, s, 3, 8, 8)
	adds(t, s, 4, 8, 8)
	turns(t, s, 3, 8, 4, 8, 4, 8)
	stands(t, s, 3, 1, 2)
	stands(t, s, 4, 0, 0)
}

// 30.2: which peers and weights may be, at their edges.
func TestWeigh(t *testing.T) {
	s := NewShare(5)
	for _, peer := range []int{1, 2, 14, 15} {
		need(t, "Add without a weight", s.Add(peer, 1), api.ErrNone)
		need(t, "Weigh 0 of nobody", s.Weigh(peer, 0), api.OK)
		need(t, "Add with weight 0", s.Add(peer, 1), api.ErrNone)
		for _, weight := range []int{1, 2, 15, 16} {
			need(t, "Weigh", s.Weigh(peer, weight), api.OK)
			need(t, "Add", s.Add(peer, 1), api.OK)
		}
		stands(t, s, peer, 4, 0)
	}
	for _, peer := range wrongPeers() {
		for _, weight := range []int{0, 1, 16, 17} {
			need(t, "Weigh of no peer", s.Weigh(peer, weight), api.ErrArg)
		}
	}
	for _, weight := range []int{-1, 17, 18, 256 + 1, 1<<32 + 1, math.MaxInt, math.MinInt} {
		need(t, "a wrong weight", s.Weigh(1, weight), api.ErrArg)
		need(t, "a wrong weight of nobody", s.Weigh(7, weight), api.ErrArg)
		stands(t, s, 1, 4, 0)
		need(t, "Add", s.Add(7, 1), api.ErrNone)
	}
}

// 30.2: another weight leaves what waits, and the credit; a wrong one leaves the weight.
func TestWeighAgain(t *testing.T) {
	s := shareOf(10, 1)
	adds(t, s, 1, 17, 60, 1)
	turns(t, s)
	stands(t, s, 1, 3, 10)
	need(t, "Weigh", s.Weigh(1, 3), api.OK)
	stands(t, s, 1, 3, 10)
	need(t, "Weigh", s.Weigh(1, 17), api.ErrArg)
	turns(t, s, 1, 17)
	stands(t, s, 1, 2, 23)
}

// 30.2: with weight 0 a peer goes, and all that waits of it, and its credit; others stay.
func TestWeighZero(t *testing.T) {
	s := shareOf(10, 2, 2, 2)
	adds(t, s, 1, 30, 5)
	adds(t, s, 2, 30, 5)
	turns(t, s)
	need(t, "Weigh 0", s.Weigh(2, 0), api.OK)
	stands(t, s, 2, 0, 0)
	stands(t, s, 1, 2, 20)
	need(t, "Add", s.Add(2, 5), api.ErrNone)
	turns(t, s, 1, 30, 1, 5)
	if _, e := s.Turn(); e != api.ErrNone {
		t.Errorf("a turn of nothing: %v", e)
	}
	need(t, "Weigh", s.Weigh(2, 1), api.OK)
	stands(t, s, 2, 0, 0)
	adds(t, s, 2, 15)
	turns(t, s)
	stands(t, s, 2, 1, 10)
}

// 30.2: ErrArg, ErrNone, ErrFull, in this order; an error lets nothing wait.
func TestAdd(t *testing.T) {
	s := shareOf(1, 1)
	for _, peer := range wrongPeers() {
		need(t, "Add of no peer", s.Add(peer, 1), api.ErrArg)
		need(t, "Add of no peer", s.Add(peer, 0), api.ErrArg)
	}
	for k := range 100 {
		stands(t, s, 1, k, 0)
		need(t, "Add", s.Add(1, []int{1, 65536, 65535, 2}[k%4]), api.OK)
	}
	for _, size := range wrongRates() {
		need(t, "Add of a wrong size", s.Add(1, size), api.ErrArg)
		need(t, "Add of a wrong size of nobody", s.Add(2, size), api.ErrArg)
	}
	need(t, "Add of nobody", s.Add(2, 1), api.ErrNone)
	need(t, "Add of one more", s.Add(1, 1), api.ErrFull)
	stands(t, s, 1, 100, 0)
	stands(t, s, 2, 0, 0)
	turns(t, s, 1, 1)
	adds(t, s, 1, 7)
	need(t, "Add of one more", s.Add(1, 1), api.ErrFull)
}

// 30.3: a first size that is too great lets those behind it wait, and the credit grows, until it is sent.
func TestTurnOfTooGreat(t *testing.T) {
	s := shareOf(10, 1, 1)
	adds(t, s, 1, 31, 1, 1)
	adds(t, s, 2, 10, 11)
	turns(t, s, 2, 10)
	stands(t, s, 1, 3, 10)
	stands(t, s, 2, 1, 0)
	turns(t, s)
	turns(t, s, 2, 11)
	stands(t, s, 1, 3, 30)
	stands(t, s, 2, 0, 0)
	turns(t, s, 1, 31, 1, 1, 1, 1)
	stands(t, s, 1, 0, 0)
	if l, e := s.Turn(); len(l) != 0 || e != api.ErrNone {
		t.Errorf("a turn of nothing: %v, %v", l, e)
	}
	stands(t, s, 1, 0, 0)
	adds(t, s, 1, 11)
	turns(t, s)
	stands(t, s, 1, 1, 10)
}

// 30.3: what just reaches is sent; the credit is 0 when nothing waits any more, and only then.
func TestTurnOfJustEnough(t *testing.T) {
	s := shareOf(7, 3)
	adds(t, s, 1, 20, 1, 21, 22)
	turns(t, s, 1, 20, 1, 1)
	stands(t, s, 1, 2, 0)
	turns(t, s, 1, 21)
	stands(t, s, 1, 1, 0)
	turns(t, s)
	stands(t, s, 1, 1, 21)
	turns(t, s, 1, 22)
	stands(t, s, 1, 0, 0)
}

// 30.3: who does not wait has no turn, and gets no credit, though others have one.
func TestWhoDoesNotWait(t *testing.T) {
	s := shareOf(10, 1, 1)
	adds(t, s, 2, 25)
	turns(t, s)
	stands(t, s, 1, 0, 0)
	adds(t, s, 1, 11)
	turns(t, s)
	stands(t, s, 1, 1, 10)
	turns(t, s, 1, 11, 2, 25)
}

// 30.3: peers of the greatest and least numbers, weights, sizes and quanta.
func TestTurnEdges(t *testing.T) {
	s := NewShare(65536)
	for peer := 15; peer >= 1; peer-- {
		s.Weigh(peer, 16)
		for range 100 {
			adds(t, s, peer, 65536)
		}
	}
	for k := range 7 {
		l, e := s.Turn()
		each := min(16, 100-16*k)
		if e != api.OK || len(l) != 15*each || !slices.IsSortedFunc(l, func(a, b api.Step) int { return a.Row - b.Row }) {
			t.Errorf("turn %d sends %d, %v", k, len(l), e)
		}
		stands(t, s, 1, 100-16*k-each, 0)
		stands(t, s, 15, 100-16*k-each, 0)
	}
	s = shareOf(1, 1)
	adds(t, s, 1, 65536)
	for k := range 65535 {
		if l, e := s.Turn(); len(l) != 0 || e != api.OK || s.Credit(1) != k+1 {
			t.Fatalf("turn %d: %v, %v, credit %d", k, l, e, s.Credit(1))
		}
	}
	turns(t, s, 1, 65536)
	stands(t, s, 1, 0, 0)
}

// 30.3: a nil share, and peers that may not be.
func TestNilShare(t *testing.T) {
	var s *Share
	need(t, "Weigh", s.Weigh(1, 1), api.ErrArg)
	need(t, "Weigh", s.Weigh(0, 99), api.ErrArg)
	need(t, "Add", s.Add(1, 1), api.ErrArg)
	if l, e := s.Turn(); len(l) != 0 || e != api.ErrArg {
		t.Errorf("Turn: %v, %v", l, e)
	}
	right := shareOf(5, 1, 1)
	adds(t, right, 1, 9)
	turns(t, right)
	for _, peer := range append(wrongPeers(), 1) {
		stands(t, s, peer, 0, 0)
		if peer != 1 {
			stands(t, right, peer, 0, 0)
		}
	}
	stands(t, right, 1, 1, 5)
}

// line is a peer by the chapter's words.
type line struct {
	weight, credit int
	waits          []int
}

// turnByDocument is a turn of all, step by step, and its error.
func turnByDocument(lines map[int]*line, quantum int) (sent []api.Step, e api.Errno) {
	e = api.ErrNone
	for peer := 1; peer <= 15; peer++ {
		x := lines[peer]
		if x == nil || len(x.waits) == 0 {
			continue
		}
		e = api.OK
		x.credit += x.weight * quantum
		if x.credit > 16777216 {
			x.credit = 16777216
		}
		for len(x.waits) > 0 && x.waits[0] <= x.credit {
			sent = append(sent, api.Step{Row: peer, Num: x.waits[0]})
			x.credit -= x.waits[0]
			x.waits = x.waits[1:]
		}
		if len(x.waits) == 0 {
			x.credit = 0
		}
	}
	return sent, e
}

// addByDocument lets a size wait, or is the error.
func addByDocument(lines map[int]*line, peer, size int) api.Errno {
	x := lines[peer]
	if peer < 1 || peer > 15 || size < 1 || size > 65536 {
		return api.ErrArg
	}
	if x == nil {
		return api.ErrNone
	}
	if len(x.waits) == 100 {
		return api.ErrFull
	}
	x.waits = append(x.waits, size)
	return api.OK
}

// weighByDocument gives a weight, or is the error.
func weighByDocument(lines map[int]*line, peer, weight int) api.Errno {
	switch {
	case peer < 1 || peer > 15 || weight < 0 || weight > 16:
		return api.ErrArg
	case weight == 0:
		delete(lines, peer)
	case lines[peer] == nil:
		lines[peer] = &line{weight: weight}
	default:
		lines[peer].weight = weight
	}
	return api.OK
}

// 30.2, 30.3: shares, against lines by the chapter's words.
func TestAgainstDocument(t *testing.T) {
	chance := rand.New(rand.NewSource(302))
	for range 150 {
		quantum := []int{1, 5, 100, 65536}[chance.Intn(4)]
		sizes := []int{3, 60, 3000, 65537}[chance.Intn(4)]
		s, lines := NewShare(quantum), map[int]*line{}
		for range 600 {
			peer, size, weight := chance.Intn(17), chance.Intn(sizes+1), chance.Intn(19)-1
			switch chance.Intn(20) {
			case 0, 1:
				need(t, "Weigh", s.Weigh(peer, weight), weighByDocument(lines, peer, weight))
			case 2:
				got, e := s.Turn()
				want, f := turnByDocument(lines, quantum)
				if !slices.Equal(got, want) || e != f {
					t.Fatalf("a turn sends %v, %v, want %v, %v", got, e, want, f)
				}
			default:
				peer = min(peer, 1+chance.Intn(16))
				need(t, "Add", s.Add(peer, size), addByDocument(lines, peer, size))
			}
			for peer := range 17 {
				if x := lines[peer]; x != nil {
					stands(t, s, peer, len(x.waits), x.credit)
				} else {
					stands(t, s, peer, 0, 0)
				}
			}
		}
	}
}

// 30.5: all that waits is sent, each peer's in order; while two wait what was sent of them differs by weights alone, but for what one size may be.
func TestAllAreSentFairly(t *testing.T) {
	chance := rand.New(rand.NewSource(305))
	for range 200 {
		quantum := 1 + chance.Intn(50)
		s := NewShare(quantum)
		var weights, bytes [16]int
		var wait, sent [16][]int
		for peer := 1; peer <= 15; peer++ {
			weights[peer] = 1 + chance.Intn(16)
			s.Weigh(peer, weights[peer])
			for range 1 + chance.Intn(99) {
				size := 1 + chance.Intn(60)
				wait[peer] = append(wait[peer], size)
				adds(t, s, peer, size)
			}
		}
		for turn := 1; ; turn++ {
			l, e := s.Turn()
			if e != api.OK {
				break
			}
			for _, x := range l {
				sent[x.Row] = append(sent[x.Row], x.Num)
				bytes[x.Row] += x.Num
			}
			for peer := 1; peer <= 15; peer++ {
				if due := turn * weights[peer] * quantum; s.Waits(peer) > 0 && (bytes[peer] > due || bytes[peer] <= due-60) {
					t.Fatalf("of %d behind %d turns %d were sent, want about %d", peer, turn, bytes[peer], due)
				}
			}
		}
		for peer := range wait {
			if !slices.Equal(wait[peer], sent[peer]) {
				t.Errorf("of %d %v are sent, want %v", peer, sent[peer], wait[peer])
			}
		}
	}
}

// R3: what a turn answers is nobody else's.
func TestTurnIsNotShared(t *testing.T) {
	s := shareOf(10, 1)
	adds(t, s, 1, 5, 5, 6, 7)
	l, _ := s.Turn()
	before := slices.Clone(l)
	adds(t, s, 1, 9, 9)
	turns(t, s, 1, 6)
	if !slices.Equal(l, before) {
		t.Errorf("what was answered is changed: %v", l)
	}
	clear(l)
	turns(t, s, 1, 7)
}
