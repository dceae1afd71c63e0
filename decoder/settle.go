package decoder

import (
	"slices"

	"mosaic/api"
	"mosaic/block"
	"mosaic/merkle"
)

// settle does the first step that can be done, and begins anew, until none can be.
func (d *Decoder) settle() {
	var all []api.Entry
begin:
	// The store hands out copies: they are fetched again where a step has dropped some, and no step adds any.
	if len(all) != len(d.rules)+d.kept.Len() {
		all = slices.Concat(d.rules, d.kept.All())
	}
	if d.look(all) || d.spend(all) || d.guessSurely(all) || d.guessFurther(all) {
		goto begin
	}
}

// look holds the least guess that can be looked at against its digest.
func (d *Decoder) look(all []api.Entry) bool {
	for i := range d.pieces {
		p := &d.pieces[i]
		if p.state != guessed || p.digest == "" {
			continue
		}
		if merkle.Leaf(p.data) == p.digest {
			p.become(verified, p.data)
		} else {
			d.fail(p, all)
		}
		return true
	}
	return false
}

// fail finds out what a guess that is wrong says of its equation: that this is false, if nothing else in it can be.
func (d *Decoder) fail(p *piece, all []api.Entry) {
	// It is there: as long as there is a guess all its roots are kept, or were spent, and its own equation can't be.
	x := all[slices.IndexFunc(all, func(x api.Entry) bool { return x.ID == p.by })]
	if d.lacks(x).proofs == 1 {
		d.drop(x.ID)
		d.blame(x)
	} else {
		d.held[x.ID] = struct{}{}
	}
	d.forget(x.ID)
}

// spend drops the first equation that can tell nothing any more.
func (d *Decoder) spend(all []api.Entry) bool {
	for _, x := range all {
		if d.lacks(x).proofs > 0 {
			continue
		}
		d.drop(x.ID)
		if d.sum(x) != block.Zero(d.m.Size) {
			d.blame(x)
		}
		return true
	}
	return false
}

// guessSurely guesses by the first equation that lacks one block, and has all others verified.
func (d *Decoder) guessSurely(all []api.Entry) bool {
	for _, x := range all {
		if l := d.lacks(x); l.proofs == 1 && l.blocks == 1 {
			d.guess(x, l.last, d.rootsOf(x))
			return true
		}
	}
	return false
}

// guessFurther guesses by the first equation that lacks one block, if it is not held, and would not hang on too many.
func (d *Decoder) guessFurther(all []api.Entry) bool {
	for _, x := range all {
		l := d.lacks(x)
		if _, held := d.held[x.ID]; held || l.blocks != 1 {
			continue
		}
		if roots := d.rootsOf(x); len(roots) <= MaxRoots {
			d.guess(x, l.last, roots)
			return true
		}
	}
	return false
}

// lack is what an equation lacks.
type lack struct {
	proofs int // how many of its blocks are not verified
	blocks int // how many of these are open
	last   int // the last one of those that are open
}

// lacks does not go on from the second block that is open: such an equation tells nothing.
func (d *Decoder) lacks(x api.Entry) lack {
	var l lack
	for _, i := range x.Idx {
		if l.blocks > 1 {
			break
		}
		switch d.pieces[i].state {
		case open:
			l.blocks++
			l.last = i
			fallthrough
		case guessed:
			l.proofs++
		}
	}
	return l
}

// guess has a block as an equation says.
func (d *Decoder) guess(x api.Entry, i int, roots []int) {
	p := &d.pieces[i]
	p.become(guessed, d.sum(x))
	p.by, p.roots = x.ID, roots
}

// sum is an equation's data, and the bytes of those of its blocks that are not open, added up.
func (d *Decoder) sum(x api.Entry) string {
	l := []string{x.Data}
	for _, i := range x.Idx {
		if d.pieces[i].state != open {
			l = append(l, d.pieces[i].data)
		}
	}
	s, _ := block.Sum(l, d.m.Size) // all of them are blocks of this size
	return s
}

// rootsOf are the roots that a guess by an equation would have; what is verified hangs on nothing.
func (d *Decoder) rootsOf(x api.Entry) []int {
	roots := []int{x.ID}
	for _, i := range x.Idx {
		roots = append(roots, d.pieces[i].roots...)
	}
	slices.Sort(roots)
	return slices.Compact(roots)
}

// become gives a piece another state; what a guess hung on is gone.
func (p *piece) become(state int, data string) {
	p.state, p.data, p.by, p.roots = state, data, 0, nil
}

// blame blames the peer of an equation that was found to be false; a rule has none.
func (d *Decoder) blame(x api.Entry) {
	if isRule(x.ID) {
		d.broken = true
		return
	}
	d.blames[x.Peer]++
	if !d.Banned(x.Peer) {
		return
	}
	for _, id := range d.kept.DropPeer(x.Peer) {
		delete(d.held, id)
		d.forget(id)
	}
}

// drop lets an equation, or a rule, go.
func (d *Decoder) drop(id int) {
	if isRule(id) {
		d.rules = slices.DeleteFunc(d.rules, func(x api.Entry) bool { return x.ID == id })
	} else {
		d.kept.Drop(id)
	}
	delete(d.held, id)
}

// forget lets all guesses go that hang on an equation or rule.
func (d *Decoder) forget(root int) {
	for i := range d.pieces {
		if p := &d.pieces[i]; slices.Contains(p.roots, root) {
			p.become(open, "")
		}
	}
}
