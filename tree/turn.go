package tree

import (
	"scrimshaw/api"
	"scrimshaw/block"
)

// leastBits is what each leaf has that is not alone, so that leaves are no
// more than fib's May lets them be.
const leastBits = api.BlockBits / 4

// insert tells the link to what stands in the node's place then.
func (t *Tree) insert(at, k int, bit bool) link {
	n := t.look(at)
	if n.isLeaf() {
		return t.insertInLeaf(at, k, bit)
	}
	s, k := n.toward(k)
	n.sides[s] = t.insert(n.sides[s].at, k, bit)
	return t.even(at)
}

// insertInLeaf makes two leaves of a full one, with a parent in its place.
func (t *Tree) insertInLeaf(at, k int, bit bool) link {
	lower := t.pool.nodes[at]
	if lower.Insert(k, bit) == api.OK {
		return t.pool.link(at)
	}
	upper := &node{Block: lower.Split()}
	if half := lower.Len(); k <= half {
		lower.Insert(k, bit)
	} else {
		upper.Insert(k-half, bit)
	}
	parent := &node{}
	parent.sides[0] = t.pool.link(at)
	parent.sides[1] = t.fresh(upper)
	return t.fresh(parent)
}

// fresh is a link to a node that a call makes: it counts as looked at.
func (t *Tree) fresh(n *node) link {
	at := t.pool.put(n)
	t.look(at)
	return t.pool.link(at)
}

// remove tells the link to what stands in the node's place then, and the bit.
func (t *Tree) remove(at, k int) (link, bool) {
	n := t.look(at)
	if n.isLeaf() {
		bit, _ := n.Delete(k)
		return t.pool.link(at), bit
	}
	s, k := n.toward(k)
	below, bit := t.remove(n.sides[s].at, k)
	n.sides[s] = below
	if below.height == 0 && below.len < leastBits {
		return t.feed(at, s), bit
	}
	return t.even(at), bit
}

// feed ends a node whose leaf on side s has too few bits: they go to the leaf
// that is nearest on the other side, and the other child stands in the node's
// place; or, where there is no room for them, both leaves share their bits.
func (t *Tree) feed(at, s int) link {
	n := t.pool.nodes[at]
	few, other := n.sides[s].at, n.sides[1-s].at
	near := other
	if o := t.look(other); !o.isLeaf() {
		// Beside a leaf stands a leaf or a parent of two: trees are even.
		near = o.sides[s].at
		t.look(near)
	}
	if t.join(few, near, s) {
		t.pool.drop(few, at)
		return t.again(other, s)
	}
	n.sides[s] = t.pool.link(few)
	n.sides[1-s] = t.again(other, s)
	return t.pool.link(at)
}

// join puts few's bits, which lie on side s of near's, to near's, and tells
// if there was room; if not, each has half of all.
func (t *Tree) join(few, near, s int) bool {
	pair := [2]*node{t.pool.nodes[few], t.pool.nodes[near]}
	lower, upper := pair[s], pair[1-s]
	if lower.Join(upper.Block) == api.OK {
		t.pool.nodes[near].Block = lower.Block
		return true
	}
	l := append(lower.All(), upper.All()...)
	lower.Block, _ = block.New(l[:len(l)/2]...)
	upper.Block, _ = block.New(l[len(l)/2:]...)
	return false
}

// again is the link to a leaf that was changed, or to a parent of two whose
// leaf on side s was.
func (t *Tree) again(at, s int) link {
	if n := t.pool.nodes[at]; !n.isLeaf() {
		n.sides[s] = t.pool.link(n.sides[s].at)
	}
	return t.pool.link(at)
}

// even turns a node, if its sides differ by two in height, and tells the link
// to what stands in its place.
func (t *Tree) even(at int) link {
	n := t.pool.nodes[at]
	for s := range n.sides {
		if n.sides[s].height-n.sides[1-s].height < 2 {
			continue
		}
		c := t.look(n.sides[s].at)
		if c.sides[1-s].height > c.sides[s].height {
			n.sides[s] = t.lift(n.sides[s].at, 1-s)
		}
		return t.lift(at, s)
	}
	return t.pool.link(at)
}

// lift turns a node and its child on side s: the child stands above then.
func (t *Tree) lift(at, s int) link {
	n := t.pool.nodes[at]
	up := n.sides[s].at
	c := t.look(up)
	n.sides[s] = c.sides[1-s]
	c.sides[1-s] = t.pool.link(at)
	return t.pool.link(up)
}
