package node

import (
	"mosaic/api"
	"mosaic/wire"
)

// Out are the datagrams that wait.
func (n *Node) Out() []api.Gram {
	if n == nil {
		return nil
	}
	l := n.waiting
	n.waiting = nil
	return l
}

// send lets a message wait to go out, if there is room for it.
func (n *Node) send(to int, m api.Msg) {
	if len(n.waiting) >= n.config.Out {
		n.drops[api.ErrFull]++
		return
	}
	n.waiting = append(n.waiting, api.Gram{From: n.me, To: to, Text: wire.Text(m)})
}

// sendHello greets a node, and notes when: two that answer each other's greetings would never come to an end.
func (n *Node) sendHello(to int) {
	n.greeted[to] = n.time + 1
	n.send(to, api.Msg{Kind: api.MsgHello, Place: n.at, Name: n.name})
}

// hasGreeted tells whether a node was sent MsgHello at this time.
func (n *Node) hasGreeted(node int) bool {
	return n.greeted[node] == n.time+1
}

// tell sends a peer what the node tells about itself to its peers.
func (n *Node) tell(to int) {
	if n.hasManifest() {
		n.send(to, api.Msg{Kind: api.MsgOffer, M: n.m})
	}
	n.sendHave(to)
	n.send(to, api.Msg{Kind: api.MsgWant, On: !n.Done()})
}

func (n *Node) sendHave(to int) {
	n.send(to, api.Msg{Kind: api.MsgHave, Have: n.Have()})
}

// each does something for each peer, by their numbers.
func (n *Node) each(do func(p api.Peer)) {
	for _, p := range n.table.List() {
		do(p)
	}
}

// tellAll tells each peer about the node.
func (n *Node) tellAll() {
	n.each(func(p api.Peer) { n.tell(p.Node) })
}
