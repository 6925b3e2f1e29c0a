package perm

import (
	"scrimshaw/api"
	"scrimshaw/arena"
)

// none is the number of no pair.
const none = 0

// numbers are those of pairs, from 1 on: an arena's, and more behind them, as
// pairs within the document's bound may be more than the nodes of an arena.
type numbers struct {
	*arena.Arena
	most int
	more *numbers
}

func newNumbers(most int) *numbers {
	return &numbers{Arena: arena.New(most), most: most}
}

func (n *numbers) take() int {
	if k, code := n.Take(); code == api.OK {
		return k + 1
	}
	if n.more == nil {
		n.more = newNumbers(n.most)
	}
	return n.more.take() + n.most
}

func (n *numbers) free(k int) {
	if k > n.most {
		n.more.free(k - n.most)
		return
	}
	n.Free(k - 1)
}
