package tree

import (
	"testing"

	"scrimshaw/api"
)

// walked is what a walk over all nodes finds, held against what links say.
type walked struct {
	t      *testing.T
	p      *pool
	seen   map[int]bool
	leaves int
}

func (w *walked) node(l link) {
	w.t.Helper()
	if w.seen[l.at] || !w.p.Is(l.at) {
		w.t.Fatalf("node %d is there twice, or is not taken", l.at)
	}
	w.seen[l.at] = true
	if got := w.p.link(l.at); got != l {
		w.t.Fatalf("link %+v, of a node that is %+v", l, got)
	}
	n := w.p.nodes[l.at]
	if n.isLeaf() {
		w.leaves++
		return
	}
	for s, side := range n.sides {
		if d := side.height - n.sides[1-s].height; d > 1 {
			w.t.Fatalf("node %d: side %d is higher by %d", l.at, s, d)
		}
		if w.p.nodes[side.at].isLeaf() && (side.len < leastBits || side.len > api.BlockBits) {
			w.t.Fatalf("leaf %d: %d bits", side.at, side.len)
		}
		w.node(side)
	}
}

// whole walks over all nodes: what Shape tells without a walk is so, and no
// number is taken for nothing.
func whole(t *testing.T, tr *Tree) {
	t.Helper()
	w := walked{t: t, p: &tr.pool, seen: map[int]bool{}}
	if tr.Len() > 0 {
		w.node(tr.root)
	}
	s := tr.Shape()
	if s.Leaves != w.leaves || s.Nodes != len(w.seen) || tr.Live() != len(w.seen) {
		t.Fatalf("Shape %+v, Live %d: of %d leaves, %d nodes", s, tr.Live(), w.leaves, len(w.seen))
	}
	for at, n := range tr.pool.nodes {
		if (n != nil) != w.seen[at] {
			t.Fatalf("node %d is kept: %v, is part of the tree: %v", at, n != nil, w.seen[at])
		}
	}
}

// 5.2, 5.3: all that is told of a tree is so of its nodes; trees are even.
func TestNodesAreAsTold(t *testing.T) {
	for n := range 5 * api.BlockBits {
		whole(t, New(make([]bool, n)...))
	}
	tr := New()
	x := uint64(88172645463325252)
	for i := range 30000 {
		x ^= x << 13
		x ^= x >> 7
		x ^= x << 17
		k := int(x>>8) % (tr.Len() + 1)
		// Rows of calls that fill at one place, and of such as empty there:
		// trees turn both ways, and leaves of few bits find each neighbour.
		switch row := i / 1000 % 6; {
		case row < 2:
			tr.Insert(k, x&1 == 1)
		case row == 2:
			tr.Insert(tr.Len()/3, x&1 == 1)
		case row == 3:
			tr.Delete(tr.Len() / 2)
		case row == 4:
			tr.Delete(k)
		default:
			tr.Delete(i % 2 * (tr.Len() - 1))
		}
		whole(t, tr)
	}
}
