package node

import (
	"mosaic/api"
	"mosaic/bits"
	"mosaic/manifest"
	"mosaic/wire"
)

// Take hears a datagram.
func (n *Node) Take(from int, text string) api.Errno {
	if n == nil {
		return api.ErrArg
	}
	e := n.take(from, text)
	if e != api.OK {
		n.drops[e]++
	}
	return e
}

func (n *Node) take(from int, text string) api.Errno {
	if !n.isOther(from) {
		return api.ErrArg
	}
	if n.table.Banned(from) {
		return api.ErrBan
	}
	m, e := wire.Read(text)
	if e != api.OK {
		return e
	}
	if n.isIdle() {
		return api.ErrNone
	}
	e = n.table.Hear(from, n.time) // who is there is heard, also by what turns out to be wrong
	if m.Kind == api.MsgHello {
		return n.takeHello(from, m)
	}
	if e != api.OK {
		return e
	}
	return n.dispatch(from, m)
}

// dispatch does what a message of a peer who is there says.
func (n *Node) dispatch(from int, m api.Msg) api.Errno {
	switch m.Kind {
	case api.MsgHave:
		return n.takeHave(from, m.Have)
	case api.MsgWant:
		return n.table.SetWants(from, m.On)
	case api.MsgChoke:
		return n.table.SetOpens(from, false)
	case api.MsgOpen:
		return n.table.SetOpens(from, true)
	case api.MsgCheck:
		return n.takeCheck(from, m)
	case api.MsgAsk:
		return n.takeAsk(from, m.Num)
	case api.MsgProof:
		return n.takeProof(from, m)
	case api.MsgOffer:
		return n.takeOffer(m.M)
	case api.MsgBye:
		return n.table.Leave(from)
	}
	return api.OK // MsgPing: it was heard
}

// takeHello meets who greets, and answers, unless he is there and was greeted just now.
func (n *Node) takeHello(from int, m api.Msg) api.Errno {
	if m.Name != n.name {
		return api.ErrBad
	}
	e := n.table.Meet(from, m.Place, n.time)
	if e != api.OK && e != api.ErrThere {
		return e
	}
	if e == api.OK || !n.hasGreeted(from) {
		n.sendHello(from)
		n.tell(from)
	}
	return api.OK
}

func (n *Node) takeHave(from int, have string) api.Errno {
	if n.hasManifest() && !bits.Check(manifest.All(n.m), have) {
		return api.ErrForm
	}
	return n.table.SetHave(from, have)
}

func (n *Node) takeOffer(m api.Manifest) api.Errno {
	// What Fetch answers is just what is asked for here: a manifest that was read may be.
	if e := n.Fetch(m); e != api.OK {
		return e
	}
	n.tellAll()
	return api.OK
}

func (n *Node) takeAsk(from, num int) api.Errno {
	digest, path, is := n.Proof(num)
	if !is {
		return api.ErrNone
	}
	n.send(from, api.Msg{Kind: api.MsgProof, Num: num, Digest: digest, Path: path})
	return api.OK
}

func (n *Node) takeCheck(from int, m api.Msg) api.Errno {
	if n.decoder == nil || n.count() == manifest.All(n.m) {
		return api.ErrThere
	}
	return n.decode(func() api.Errno {
		if n.decoder.KeptOf(from) >= n.config.Quota {
			n.decoder.Evict(from)
		}
		e := n.decoder.Add(from, m.Head, m.Data)
		if e == api.OK {
			n.table.Count(from, len(m.Data))
		}
		return e
	})
}

func (n *Node) takeProof(from int, m api.Msg) api.Errno {
	if n.decoder == nil {
		return api.ErrThere
	}
	return n.decode(func() api.Errno {
		e := n.decoder.Learn(m.Num, m.Digest, m.Path)
		if e == api.ErrBad {
			n.table.Ban(from)
		}
		return e
	})
}

// decode hands something to the decoder, and does what comes of it, also behind an error: a settling may have gone ahead of it.
func (n *Node) decode(do func() api.Errno) api.Errno {
	before := n.count()
	e := do()
	for node := 1; node <= api.MaxPeer; node++ {
		if n.decoder.Banned(node) {
			n.table.Ban(node)
		}
	}
	if n.count() > before {
		n.each(func(p api.Peer) { n.sendHave(p.Node) })
	}
	return e
}
