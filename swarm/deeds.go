package swarm

import (
	"mosaic/api"
	"mosaic/manifest"
	"mosaic/node"
)

// Do does a deed.
func (s *Swarm) Do(d api.Deed) api.Errno {
	if s == nil {
		return api.ErrArg
	}
	defer s.send()
	switch d.Kind {
	case api.DeedCome, api.DeedLose, api.DeedTwice:
		return s.doMail(d.Kind, s.net.Nth(d.I))
	case api.DeedTick:
		return s.Node(d.Node).Tick(d.I) // of no node ErrArg
	case api.DeedGreet:
		return s.Node(d.Node).Greet(d.To)
	case api.DeedLie:
		return s.lie(d)
	}
	return api.ErrArg
}

// send sends under way what the nodes have to send.
func (s *Swarm) send() {
	for _, n := range s.nodes {
		for _, g := range n.Out() { // of a liar there is nothing
			if len(s.sent) < MaxSent {
				s.sent = append(s.sent, g)
			}
			if _, e := s.net.Send(g); e != api.OK {
				s.lost++
			}
		}
	}
}

// doMail does a deed to a datagram under way. No datagram has the number 0, so that all of it answers ErrNone.
func (s *Swarm) doMail(kind, id int) api.Errno {
	switch kind {
	case api.DeedLose:
		return s.net.Lose(id)
	case api.DeedTwice:
		_, e := s.net.Twice(id)
		return e
	}
	g, e := s.net.Take(id)
	if e == api.OK {
		s.Node(g.To).Take(g.From, g.Text) // what comes to a liar, or to no one, is heard by no one
	}
	return e
}

// lie sends what a liar has to say.
func (s *Swarm) lie(d api.Deed) api.Errno {
	if !s.isLiar(d.Node) {
		return api.ErrArg
	}
	_, e := s.net.Send(api.Gram{From: d.Node, To: d.To, Text: d.Text})
	return e
}

// Rounds is within how many rounds all are done.
func Rounds(all int) int {
	all = min(max(all, 0), api.MaxAll)
	return baseRounds + blockRounds*all + all*all
}

// Calm goes on until all are done.
func (s *Swarm) Calm() (rounds int, done bool) {
	if s == nil {
		return 0, false
	}
	s.greetAll()
	for most := Rounds(manifest.All(s.Manifest())); rounds < most && !s.Done(); rounds++ {
		s.comeAll()
		s.tickAll(rounds)
	}
	s.comeAll()
	return rounds, s.Done()
}

// each does something for each node, by their numbers.
func (s *Swarm) each(do func(i int, n *node.Node)) {
	for i, n := range s.nodes {
		if n != nil {
			do(i+1, n)
		}
	}
}

// greetAll lets each node that does not own greet every other one.
func (s *Swarm) greetAll() {
	s.each(func(i int, n *node.Node) {
		if n.Owns() {
			return
		}
		s.each(func(to int, _ *node.Node) {
			if to != i {
				s.Do(api.Deed{Kind: api.DeedGreet, Node: i, To: to})
			}
		})
	})
}

// comeAll lets all come that can, the least number first; what comes lets nodes send more.
func (s *Swarm) comeAll() {
	count := 0
next:
	if count < maxComing && s.Do(api.Deed{Kind: api.DeedCome}) == api.OK {
		count++
		goto next
	}
}

// tickAll lets time go on for each node.
func (s *Swarm) tickAll(lot int) {
	s.each(func(i int, _ *node.Node) {
		s.Do(api.Deed{Kind: api.DeedTick, Node: i, I: lot})
	})
}
