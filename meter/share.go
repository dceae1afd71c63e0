package meter

import (
	"slices"

	"mosaic/api"
)

// Share is turns among those who wait.
type Share struct {
	quantum int
	queues  [api.MaxPeer + 1]queue // by the peers' numbers
}

// queue is what waits of a peer.
type queue struct {
	weight int // 0: there is no such peer
	credit int
	waits  []int
}

// NewShare is a share without peers.
func NewShare(quantum int) *Share {
	if !isFrom(1, quantum, MaxRate) {
		return nil
	}
	return &Share{quantum: quantum}
}

// queue is a peer's queue; nil, if that is no peer's number.
func (s *Share) queue(peer int) *queue {
	if s == nil || !isFrom(1, peer, api.MaxPeer) {
		return nil
	}
	return &s.queues[peer]
}

// Weigh gives a peer its weight.
func (s *Share) Weigh(peer, weight int) api.Errno {
	q := s.queue(peer)
	if q == nil || !isFrom(0, weight, MaxWeight) {
		return api.ErrArg
	}
	if weight == 0 {
		*q = queue{}
	}
	q.weight = weight
	return api.OK
}

// Add lets a size wait.
func (s *Share) Add(peer, size int) api.Errno {
	q := s.queue(peer)
	switch {
	case q == nil || !isFrom(1, size, MaxRate):
		return api.ErrArg
	case q.weight == 0:
		return api.ErrNone
	case len(q.waits) >= MaxWaits:
		return api.ErrFull
	}
	q.waits = append(q.waits, size)
	return api.OK
}

// Turn gives all that wait a turn.
func (s *Share) Turn() (sent []api.Step, e api.Errno) {
	if s == nil {
		return nil, api.ErrArg
	}
	e = api.ErrNone
	for peer := range s.queues {
		if s.Waits(peer) == 0 {
			continue
		}
		e = api.OK
		for _, size := range s.queues[peer].turn(s.quantum) {
			sent = append(sent, api.Step{Row: peer, Num: size})
		}
	}
	return sent, e
}

// turn is a turn of a peer of whom something waits: the sizes that are sent.
func (q *queue) turn(quantum int) []int {
	sent := 0
	q.credit = min(q.credit+q.weight*quantum, MaxCredit)
next:
	if sent < len(q.waits) && q.waits[sent] <= q.credit {
		q.credit -= q.waits[sent]
		sent++
		goto next
	}
	first := q.waits[:sent]
	// What is left moves, so that nothing of what was sent is kept.
	q.waits = slices.Clone(q.waits[sent:])
	if len(q.waits) == 0 {
		q.credit = 0
	}
	return first
}

// Waits is how many sizes of a peer wait.
func (s *Share) Waits(peer int) int {
	q := s.queue(peer)
	if q == nil {
		return 0
	}
	return len(q.waits)
}

// Credit is a peer's credit.
func (s *Share) Credit(peer int) int {
	q := s.queue(peer)
	if q == nil {
		return 0
	}
	return q.credit
}
