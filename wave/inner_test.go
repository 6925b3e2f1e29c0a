package wave

import (
	"testing"

	"scrimshaw/api"
)

// whole holds a node, and all below it, to what a node says of itself: it has
// bits, and on the side of each kind of them stands a node with as many.
func whole(t *testing.T, n *node, level, bits int) {
	t.Helper()
	if n == nil {
		if bits != 0 && level < api.Levels {
			t.Fatalf("level %d: no node of %d bits", level, bits)
		}
		return
	}
	if bits == 0 || level == api.Levels || n.Len() != bits {
		t.Fatalf("level %d: a node of %d bits, not %d", level, n.Len(), bits)
	}
	whole(t, n.sides[0], level+1, n.Len()-n.Ones())
	whole(t, n.sides[1], level+1, n.Ones())
}

// 7.2, T5: behind each call there stand the nodes of the symbols and no other.
func TestNoNodeIsLeft(t *testing.T) {
	w, _ := New(98, 0, 256, 98, 99)
	whole(t, w.top, 0, 5)
	n := 5
	for _, s := range []int{97, 256, 0, 128, 255} {
		for k := range n + 1 {
			w.Insert(k, s)
			whole(t, w.top, 0, n+1)
			w.Delete(k)
			whole(t, w.top, 0, n)
		}
	}
	for ; n > 0; n-- {
		w.Delete(n / 2)
		whole(t, w.top, 0, n-1)
		w.Delete(n)
		w.Insert(n+1, 7)
		whole(t, w.top, 0, n-1)
	}
	if w.top != nil {
		t.Fatal("a node of no symbols is left")
	}
}
