package wave

import (
	"scrimshaw/api"
	"scrimshaw/sym"
	"scrimshaw/tree"
)

// node is a level's bits of all symbols with one path. It stands only while
// there are such symbols: so those that are gone leave nothing behind, and on
// the side of each bit, above the last level, a node stands.
type node struct {
	*tree.Tree
	sides [2]*node
}

func newNode(bits ...bool) *node {
	return &node{Tree: tree.New(bits...)}
}

// side is where the symbols with that bit go on.
func side(bit bool) int {
	if bit {
		return 1
	}
	return 0
}

// build makes the node, and all below it, of symbols with one path.
func build(level int, l ...int) *node {
	if len(l) == 0 || level == api.Levels {
		return nil
	}
	bits := make([]bool, len(l))
	var parts [2][]int
	for k, s := range l {
		bit := sym.Bit(s, level)
		bits[k] = bit
		parts[side(bit)] = append(parts[side(bit)], s)
	}
	n := newNode(bits...)
	for i, part := range parts {
		n.sides[i] = build(level+1, part...)
	}
	return n
}

// below is the node of that level and path, from one of level 0 on; nil of
// none.
func (n *node) below(level, path int) *node {
	if level < 0 || level >= api.Levels || path>>level != 0 {
		return nil
	}
	for n != nil && level > 0 {
		level--
		n = n.sides[path>>level&1]
	}
	return n
}

// nextLevel is the nodes below those, by their paths if those are.
func nextLevel(l ...*node) []*node {
	var next []*node
	for _, n := range l {
		for _, below := range n.sides {
			if below != nil {
				next = append(next, below)
			}
		}
	}
	return next
}

// reader reads a node's bits from the front, and those below in step: all
// symbols come at fewer steps so than one by one from the trees.
type reader struct {
	bits  []bool
	sides [2]*reader
}

func (n *node) reader() *reader {
	if n == nil {
		return nil
	}
	r := &reader{bits: n.All()}
	for i, below := range n.sides {
		r.sides[i] = below.reader()
	}
	return r
}

// next is the next symbol.
func (r *reader) next() int {
	s := 0
	for r != nil {
		i := side(r.bits[0])
		r.bits = r.bits[1:]
		s = 2*s + i
		r = r.sides[i]
	}
	return s
}
