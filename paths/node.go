package paths

import "souterrain/api"

// node stands where the bits of a prefix lead, from the root on and from the
// highest bit on: so all prefixes that have an address lie on one way down.
type node struct {
	is   bool // whether the prefix was set, or only lies on the way to others
	path api.Path
	next [2]*node
}

// bit answers the bit of a by which the way goes on behind depth steps; behind
// the last one it is 0, where no way goes on.
func bit(a uint32, depth int) uint32 { return a << depth >> (addrBits - 1) }

// has says whether p was set, in what lies below the root n.
func (n *node) has(p api.Prefix) bool {
	for depth := 0; n != nil && depth < p.Bits; depth++ {
		n = n.next[bit(p.Addr, depth)]
	}
	return n != nil && n.is
}

// reach answers where p's bits lead from the root n, and lays the way where there
// is none yet.
func (n *node) reach(p api.Prefix) *node {
	for depth := range p.Bits {
		b := bit(p.Addr, depth)
		if n.next[b] == nil {
			n.next[b] = &node{}
		}
		n = n.next[b]
	}
	return n
}

// longest answers whose the last prefix is on a's way down from the root n.
func (n *node) longest(a uint32) (peer int, is bool) {
	for depth := 0; n != nil; depth++ {
		if n.is {
			peer, is = n.path.Peer, true
		}
		n = n.next[bit(a, depth)]
	}
	return peer, is
}

// each goes over all that was set at n and below: a prefix ahead of those within
// it, and a bit 0 ahead of a bit 1, which is to rise by Addr and then by Bits.
func (n *node) each(yield func(api.Path) bool) {
	if n == nil {
		return
	}
	if n.is && !yield(n.path) {
		return
	}
	for _, next := range n.next {
		for path := range next.each {
			if !yield(path) {
				return
			}
		}
	}
}
