package choke

import (
	"cmp"
	"slices"

	"mosaic/api"
	"mosaic/plane"
)

// group is some peers, in an order.
type group []api.Peer

// order says which of two is first: below 0, if a is.
type order func(a, b api.Peer) int

// standing is how peers stand, seen from a place.
func standing(at api.Place) order {
	return func(a, b api.Peer) int {
		return cmp.Or(
			cmp.Compare(b.Rate, a.Rate),
			cmp.Compare(plane.Dist(a.Place, at), plane.Dist(b.Place, at)),
			numbers(a, b),
		)
	}
}

// numbers is the order of their numbers.
func numbers(a, b api.Peer) int {
	return cmp.Compare(a.Node, b.Node)
}

// those are the peers that are so, in the order of the list.
func those(l []api.Peer, are func(p api.Peer) bool) group {
	var g group
	for _, p := range l {
		if are(p) {
			g = append(g, p)
		}
	}
	return g
}

// by is the same peers in another order.
func (g group) by(o order) group {
	return slices.SortedFunc(slices.Values(g), o)
}

// nodes are the peers' numbers.
func (g group) nodes() []int {
	var l []int
	for _, p := range g {
		l = append(l, p.Node)
	}
	return l
}
