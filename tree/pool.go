package tree

import (
	"scrimshaw/api"
	"scrimshaw/arena"
	"scrimshaw/block"
)

// link is the way to a node, with what its parent has to know of all that
// hangs there: so a step down, or a turn, looks at no node beside the way.
type link struct {
	at, len, ones, height int
}

// count is how many bits like that hang there.
func (l link) count(bit bool) int {
	if bit {
		return l.ones
	}
	return l.len - l.ones
}

// node is a leaf with its block, or has no block and two children.
type node struct {
	*block.Block
	// The lower bits' side is 0, the upper bits' side is 1: what is done on
	// one is done on the other with 1 less the side.
	sides [2]link
}

func (n *node) isLeaf() bool {
	return n.Block != nil
}

// toward is the side of the bit at k, and its place there.
func (n *node) toward(k int) (int, int) {
	if k < n.sides[0].len {
		return 0, k
	}
	return 1, k - n.sides[0].len
}

// pool is the nodes by the arena's numbers.
type pool struct {
	*arena.Arena
	nodes []*node
}

// put takes a number for a node. It can't be refused one: of bits within the
// document's bound there are nodes for half of MaxNodes at most. The arena
// comes with the first node, so that a zero tree is one without bits.
func (p *pool) put(n *node) int {
	if p.Arena == nil {
		p.Arena = arena.New(api.MaxNodes)
	}
	at, _ := p.Take()
	if at == len(p.nodes) {
		p.nodes = append(p.nodes, nil)
	}
	p.nodes[at] = n
	return at
}

// drop gives nodes back.
func (p *pool) drop(l ...int) {
	for _, at := range l {
		p.nodes[at] = nil
	}
	p.Free(l...)
}

// link is a new link to a node whose links, or whose block, are right.
func (p *pool) link(at int) link {
	n := p.nodes[at]
	if n.isLeaf() {
		return link{at: at, len: n.Len(), ones: n.Ones()}
	}
	lower, upper := n.sides[0], n.sides[1]
	return link{
		at:     at,
		len:    lower.len + upper.len,
		ones:   lower.ones + upper.ones,
		height: 1 + max(lower.height, upper.height),
	}
}

// build lays nodes over bits. The halves differ by one bit at most, on each
// floor, so the leaves lie on two floors at most, and each has half of what a
// block holds, if it is not alone.
func (p *pool) build(l ...bool) link {
	if len(l) <= api.BlockBits {
		b, _ := block.New(l...)
		return p.link(p.put(&node{Block: b}))
	}
	half := len(l) / 2
	return p.link(p.put(&node{sides: [2]link{p.build(l[:half]...), p.build(l[half:]...)}}))
}

// gather puts the bits of a node, and of all below it, behind l.
func (p *pool) gather(l []bool, at int) []bool {
	n := p.nodes[at]
	if n.isLeaf() {
		return append(l, n.All()...)
	}
	return p.gather(p.gather(l, n.sides[0].at), n.sides[1].at)
}
