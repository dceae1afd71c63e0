package node

import (
	"mosaic/api"
	"mosaic/bits"
	"mosaic/choke"
	"mosaic/inner"
	"mosaic/manifest"
	"mosaic/plane"
)

// Tick lets time go on.
func (n *Node) Tick(lot int) api.Errno {
	switch {
	case n == nil || lot < 0:
		return api.ErrArg
	case n.time >= api.MaxTick:
		return api.ErrOver
	case n.isIdle():
		return api.ErrNone
	}
	n.time++
	n.table.Expire(n.time)
	if n.time%Window == 0 {
		n.table.Roll()
		n.choose(lot)
		n.greetFriends()
		n.tellAll()
	}
	n.each(n.sendCheck)
	n.sendAsks()
	return api.OK
}

// choose chooses anew to whom check blocks are sent.
func (n *Node) choose(lot int) {
	l := n.table.List()
	chosen, _ := choke.Choose(l, n.config.Slots, lot, n.at) // all of these may be
	open, shut := choke.Turns(l, chosen)
	for _, node := range open {
		n.send(node, api.Msg{Kind: api.MsgOpen})
		n.table.SetOpen(node, true)
	}
	for _, node := range shut {
		n.send(node, api.Msg{Kind: api.MsgChoke})
		n.table.SetOpen(node, false)
	}
}

// greetFriends greets those that are not there.
func (n *Node) greetFriends() {
	for node, is := range n.friends {
		if _, there := n.table.Get(node); is && !there && !n.table.Banned(node) {
			n.sendHello(node)
		}
	}
}

// sendCheck sends a peer a check block, if it is open, and there is one for it.
func (n *Node) sendCheck(p api.Peer) {
	if !p.Open || n.count() == 0 {
		return
	}
	h := n.headFor(p)
	data, _ := inner.Encode(n.m, h, n.Whole()) // all blocks of this head are had
	n.checks++
	n.send(p.Node, api.Msg{Kind: api.MsgCheck, Head: h, Data: data})
}

// headFor is the head of a peer's next check block: at even times that of a block that it lacks.
func (n *Node) headFor(p api.Peer) api.Head {
	if l := n.lackedBy(p); n.time%2 == 0 && len(l) > 0 {
		return api.Head{Mode: api.ModeOne, Seed: l[n.time/2%len(l)]}
	}
	if n.count() == manifest.All(n.m) {
		return api.Head{Mode: api.ModeAll, Seed: n.checks}
	}
	return api.Head{Mode: api.ModeSome, Seed: n.checks, Have: n.Have()}
}

// lackedBy are the blocks that the node has and a peer has not.
func (n *Node) lackedBy(p api.Peer) []int {
	var l []int
	have := n.Have()
	for i := range manifest.All(n.m) {
		// The peer's set may have been told ahead of the manifest, and so be of any length.
		if bits.Has(have, i) && !bits.Has(p.Have, i) {
			l = append(l, i)
		}
	}
	return l
}

// sendAsks asks for the proofs that the decoder lacks.
func (n *Node) sendAsks() {
	for _, i := range n.decoder.Asks() {
		l := n.askable(i)
		if len(l) > 0 {
			n.send(l[n.time%len(l)].Node, api.Msg{Kind: api.MsgAsk, Num: i})
		}
	}
}

// askable are the peers that have a block, or all, if none has; the nearest first.
func (n *Node) askable(i int) []api.Peer {
	var l []api.Peer
	n.each(func(p api.Peer) {
		if bits.Has(p.Have, i) {
			l = append(l, p)
		}
	})
	if len(l) == 0 {
		l = n.table.List()
	}
	return n.byDistance(l)
}

// byDistance is peers in the order of their distance from the node.
func (n *Node) byDistance(l []api.Peer) []api.Peer {
	var places []api.Place
	for _, p := range l {
		places = append(places, p.Place)
	}
	order, _ := plane.Near(n.at, places) // of places that may be, and few
	var near []api.Peer
	for _, i := range order {
		near = append(near, l[i])
	}
	return near
}
