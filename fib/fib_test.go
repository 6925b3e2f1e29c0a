package fib_test

import (
	"math"
	"math/big"
	"slices"
	"testing"

	"scrimshaw/api"
	"scrimshaw/fib"
)

// least is Least of all heights from 0 on that are not cut to MaxLen, written out.
var least = []int{
	1, 2, 3, 5, 8, 13, 21, 34, 55, 89,
	144, 233, 377, 610, 987, 1597, 2584, 4181, 6765, 10946,
	17711, 28657, 46368, 75025, 121393, 196418, 317811, 514229, 832040, 1346269,
	2178309, 3524578, 5702887, 9227465, 14930352, 24157817, 39088169, 63245986, 102334155, 165580141,
	267914296, 433494437, 701408733, 1134903170, 1836311903,
}

// uncut is what Least of 45 were, if it was not cut.
const uncut = 2971215073

var (
	belowZero = []int{math.MinInt, math.MinInt + 1, math.MinInt32, -api.MaxLen, -1000, -45, -44, -3, -2, -1}
	great     = []int{api.MaxLen - 1, api.MaxLen, api.MaxLen + 1, uncut - 1, uncut, uncut + 1, 1 << 32, 1 << 48, 1<<62 - 1, 1 << 62, math.MaxInt - 1, math.MaxInt}
)

// 4.1: Least of each height up to where MaxLen is reached.
func TestLeast(t *testing.T) {
	for h, want := range least {
		if n := fib.Least(h); n != want {
			t.Errorf("Least(%d): %d, not %d", h, n, want)
		}
	}
	for h := 2; h <= 44; h++ {
		if fib.Least(h) != fib.Least(h-1)+fib.Least(h-2) {
			t.Errorf("Least(%d) is not the two below it together", h)
		}
	}
}

// 4.1: of no height.
func TestLeastBelowZero(t *testing.T) {
	for _, h := range belowZero {
		if n := fib.Least(h); n != 0 {
			t.Errorf("Least(%d): %d", h, n)
		}
	}
}

// 4.1: of heights from where MaxLen is reached.
func TestLeastIsAtMostMaxLen(t *testing.T) {
	for h := 45; h < 500; h++ {
		if n := fib.Least(h); n != api.MaxLen {
			t.Errorf("Least(%d): %d", h, n)
		}
	}
	for _, h := range append([]int{1000, 1 << 20, math.MaxInt32}, great...) {
		if n := fib.Least(h); n != api.MaxLen {
			t.Errorf("Least(%d): %d", h, n)
		}
	}
}

// 4.1: Most of each least, of one less and of one more.
func TestMostAtEachLeast(t *testing.T) {
	for h, n := range least {
		if got := fib.Most(n); got != h {
			t.Errorf("Most(%d): %d, not %d", n, got, h)
		}
		if got := fib.Most(n - 1); got != h-1 {
			t.Errorf("Most(%d): %d, not %d", n-1, got, h-1)
		}
		want := h
		if slices.Contains(least, n+1) {
			want++
		}
		if got := fib.Most(n + 1); got != want {
			t.Errorf("Most(%d): %d, not %d", n+1, got, want)
		}
	}
}

// 4.1: Most of all small numbers.
func TestMostOfSmall(t *testing.T) {
	h := -1
	for n := range 20000 {
		if h+1 < len(least) && least[h+1] == n {
			h++
		}
		if got := fib.Most(n); got != h {
			t.Fatalf("Most(%d): %d, not %d", n, got, h)
		}
	}
}

// 4.1: of no leaves.
func TestMostBelowOne(t *testing.T) {
	for _, n := range append([]int{0}, belowZero...) {
		if h := fib.Most(n); h != -1 {
			t.Errorf("Most(%d): %d", n, h)
		}
	}
}

// 4.1: at most 44, though the Least of heights above is cut.
func TestMostIsAtMost44(t *testing.T) {
	for _, n := range append([]int{1836311903, 1836311904}, great...) {
		if h := fib.Most(n); h != 44 {
			t.Errorf("Most(%d): %d", n, h)
		}
	}
	if h := fib.Most(1836311902); h != 43 {
		t.Errorf("Most(1836311902): %d", h)
	}
}

// plainLeast is Least of any height, from what is written out above.
func plainLeast(height int) int {
	switch {
	case height < 0:
		return 0
	case height < len(least):
		return least[height]
	}
	return api.MaxLen
}

// plainMay is May of one shape, in numbers that don't come round.
func plainMay(s api.Shape) bool {
	if s.Len < 0 {
		return false
	}
	if s.Len == 0 {
		return s.Height == 0 && s.Leaves == 0 && s.Nodes == 0
	}
	if s.Height < 0 || s.Leaves < plainLeast(s.Height) {
		return false
	}
	most := big.NewInt(int64(s.Len))
	most.Mul(most, big.NewInt(4))
	most.Div(most, big.NewInt(128))
	most.Add(most, big.NewInt(1))
	if big.NewInt(int64(s.Leaves)).Cmp(most) > 0 {
		return false
	}
	nodes := big.NewInt(int64(s.Leaves))
	nodes.Mul(nodes, big.NewInt(2))
	nodes.Sub(nodes, big.NewInt(1))
	return nodes.Cmp(big.NewInt(int64(s.Nodes))) == 0
}

// held holds May of one shape to what is wanted.
func held(t *testing.T, want bool, l ...api.Shape) {
	t.Helper()
	for _, s := range l {
		if fib.May(s) != want {
			t.Errorf("May(%v): %v", s, !want)
		}
		if plainMay(s) != want {
			t.Errorf("the test's own rule says %v of %v", !want, s)
		}
	}
}

// 4.2: where there are no shapes, none is wrong.
func TestMayOfNone(t *testing.T) {
	if !fib.May() || !fib.May(nil...) || !fib.May([]api.Shape{}...) {
		t.Fatal("no shapes may be")
	}
}

// 4.2: ordinary shapes.
func TestMay(t *testing.T) {
	held(t, true, api.Shape{},
		api.Shape{Len: 1, Height: 0, Leaves: 1, Nodes: 1},
		api.Shape{Len: 128, Height: 0, Leaves: 1, Nodes: 1},
		api.Shape{Len: 32, Height: 1, Leaves: 2, Nodes: 3},
		api.Shape{Len: 129, Height: 1, Leaves: 2, Nodes: 3},
		api.Shape{Len: 1000, Height: 3, Leaves: 5, Nodes: 9},
		api.Shape{Len: 1000, Height: 5, Leaves: 32, Nodes: 63},
		api.Shape{Len: 100000, Height: 12, Leaves: 1000, Nodes: 1999},
		api.Shape{Len: api.MaxLen, Height: 25, Leaves: 1 << 25, Nodes: 1<<26 - 1})
	held(t, false,
		api.Shape{Len: 1, Height: 0, Leaves: 2, Nodes: 3},
		api.Shape{Len: 31, Height: 1, Leaves: 2, Nodes: 3},
		api.Shape{Len: 1000, Height: 4, Leaves: 5, Nodes: 9},
		api.Shape{Len: 1000, Height: 5, Leaves: 33, Nodes: 65},
		api.Shape{Len: 1000, Height: 3, Leaves: 5, Nodes: 5},
		api.Shape{Len: 1000})
}

// 4.2: nothing but what is said is asked: neither that leaves hold all bits,
// nor that they have room at their height.
func TestMayAsksNoMore(t *testing.T) {
	held(t, true,
		api.Shape{Len: api.MaxLen, Height: 0, Leaves: 1, Nodes: 1},
		api.Shape{Len: math.MaxInt, Height: 0, Leaves: 1, Nodes: 1},
		api.Shape{Len: 320, Height: 0, Leaves: 11, Nodes: 21},
		api.Shape{Len: 320, Height: 1, Leaves: 11, Nodes: 21})
}

// 4.2: Len below 0.
func TestMayOfLenBelowZero(t *testing.T) {
	for _, n := range append([]int{-31, -32, -33, -127, -128, -129}, belowZero...) {
		held(t, false,
			api.Shape{Len: n},
			api.Shape{Len: n, Leaves: 1, Nodes: 1},
			api.Shape{Len: n, Height: -1},
			api.Shape{Len: n, Nodes: -1},
			api.Shape{Len: n, Height: -1, Nodes: -1},
			api.Shape{Len: n, Leaves: n/32 + 1, Nodes: 2*(n/32+1) - 1})
	}
}

// 4.2: Len 0 beside any other part that is not 0.
func TestMayOfLenZero(t *testing.T) {
	for _, n := range slices.Concat([]int{1, 2, 3, 44, 45, 1000}, belowZero, great) {
		held(t, false,
			api.Shape{Height: n},
			api.Shape{Leaves: n},
			api.Shape{Nodes: n},
			api.Shape{Height: n, Leaves: 1, Nodes: 1},
			api.Shape{Height: n, Nodes: -1},
			api.Shape{Leaves: n, Nodes: 2*n - 1},
			api.Shape{Height: n, Leaves: n, Nodes: n})
	}
	held(t, false, api.Shape{Leaves: 1, Nodes: 1}, api.Shape{Nodes: -1}, api.Shape{Height: -1, Nodes: -1})
}

// 4.2: Height below 0.
func TestMayOfHeightBelowZero(t *testing.T) {
	for _, h := range belowZero {
		for _, n := range []int{1, 32, 128, 1000, api.MaxLen, math.MaxInt} {
			for leaves := range 4 {
				held(t, false, api.Shape{Len: n, Height: h, Leaves: leaves, Nodes: 2*leaves - 1})
			}
		}
	}
}

// 4.2: Leaves and Nodes at their bounds, one too few and one too many, of all
// heights that a Len allows, and of some above.
func TestMayAtTheBounds(t *testing.T) {
	for _, n := range []int{1, 2, 31, 32, 33, 63, 64, 65, 127, 128, 129, 255, 256, 257, 1000, 4095, 4096, 1 << 20, api.MaxLen - 1, api.MaxLen, api.MaxLen + 1, 1 << 40, 1 << 59, 1 << 60} {
		last := int(new(big.Int).Div(new(big.Int).Mul(big.NewInt(int64(n)), big.NewInt(4)), big.NewInt(128)).Int64()) + 1
		for h := range 60 {
			first := plainLeast(h)
			for _, leaves := range []int{first, first + 1, (first + last) / 2, last - 1, last} {
				if leaves >= first && leaves <= last {
					atNodes(t, api.Shape{Len: n, Height: h, Leaves: leaves})
				}
			}
			for _, leaves := range []int{-first, 0, first - 1, last + 1, 2*last + 1} {
				if leaves < first || leaves > last {
					held(t, false, api.Shape{Len: n, Height: h, Leaves: leaves, Nodes: 2*leaves - 1})
				}
			}
		}
	}
}

// atNodes: of a shape that may be with the right Nodes, and not with others.
func atNodes(t *testing.T, s api.Shape) {
	t.Helper()
	right := 2*s.Leaves - 1
	for _, nodes := range []int{right - 1, right + 1, right - 2, right + 2, -right, 0, s.Leaves + 1, 2 * s.Leaves, math.MinInt, math.MaxInt} {
		if nodes != right {
			s.Nodes = nodes
			held(t, false, s)
		}
	}
	s.Nodes = right
	held(t, true, s)
}

// 4.2 and rule 7: every part from the least to the greatest that an int may be.
func TestMayOfWholeRange(t *testing.T) {
	parts := []int{
		math.MinInt, math.MinInt + 1, -1 << 62, -1 << 61, math.MinInt32, -1, 0, 1, 2, 31, 32, 44, 45, 128,
		1 << 31, 1 << 57, 1 << 58, 1<<58 + 1, 1 << 61, 1<<61 + 127, 1 << 62, 1<<62 + 1, math.MaxInt/4 + 1, math.MaxInt - 1, math.MaxInt,
	}
	may := 0
	for _, n := range parts {
		for _, h := range parts {
			for _, leaves := range append(parts, n/32, n/32+1, n/32+2) {
				for _, nodes := range append(parts, 2*leaves-1) {
					s := api.Shape{Len: n, Height: h, Leaves: leaves, Nodes: nodes}
					held(t, plainMay(s), s)
					if fib.May(s) {
						may++
					}
				}
			}
		}
	}
	if may < 50 {
		t.Fatal("only so many of them may be:", may)
	}
	held(t, true,
		api.Shape{Len: math.MaxInt, Height: 44, Leaves: 1 << 58, Nodes: 1<<59 - 1},
		api.Shape{Len: math.MaxInt, Height: math.MaxInt, Leaves: api.MaxLen, Nodes: 2*api.MaxLen - 1},
		api.Shape{Len: 1 << 61, Height: 0, Leaves: 1<<56 + 1, Nodes: 1<<57 + 1},
		api.Shape{Len: 1 << 62, Height: 0, Leaves: 1<<57 + 1, Nodes: 1<<58 + 1})
	held(t, false,
		api.Shape{Len: math.MaxInt, Height: 0, Leaves: 1<<58 + 1, Nodes: 1<<59 + 1},
		api.Shape{Len: math.MaxInt, Height: math.MaxInt, Leaves: api.MaxLen - 1, Nodes: 2*api.MaxLen - 3})
}

// well and wrong are shapes that may be, and that may not.
func well() []api.Shape {
	return []api.Shape{
		{},
		{Len: 1, Leaves: 1, Nodes: 1},
		{Len: 1000, Height: 3, Leaves: 5, Nodes: 9},
		{Len: 64, Height: 1, Leaves: 3, Nodes: 5},
		{},
		{Len: math.MaxInt, Height: 44, Leaves: 1836311903, Nodes: 3672623805},
	}
}

func wrong() []api.Shape {
	return []api.Shape{
		{Len: -1},
		{Height: 1},
		{Leaves: 1},
		{Nodes: -1},
		{Len: 1},
		{Len: 1000, Height: -1, Leaves: 5, Nodes: 9},
		{Len: 1000, Height: 3, Leaves: 4, Nodes: 7},
		{Len: 64, Height: 1, Leaves: 4, Nodes: 7},
		{Len: 1000, Height: 3, Leaves: 5, Nodes: 8},
		{Len: 1000, Height: 3, Leaves: 5, Nodes: 10},
	}
}

// 4.2: of several, all must be well: one that is not, wherever, is enough.
func TestMayOfSeveral(t *testing.T) {
	all := well()
	for n := range len(all) + 1 {
		if !fib.May(all[:n]...) || !fib.May(all[n:]...) {
			t.Errorf("%d of shapes that may be", n)
		}
		for at := range n + 1 {
			for _, bad := range wrong() {
				if fib.May(slices.Insert(slices.Clone(all[:n]), at, bad)...) {
					t.Errorf("%v at %d of %d", bad, at, n+1)
				}
			}
		}
	}
	for _, bad := range wrong() {
		if fib.May(bad, bad) {
			t.Errorf("%v twice", bad)
		}
	}
}

// 4.2: what was handed in is as it was, and asked again tells the same.
func TestMayLeavesItsListAlone(t *testing.T) {
	for _, l := range [][]api.Shape{well(), wrong(), append(well(), wrong()...), append(wrong(), well()...)} {
		l = slices.Grow(l, 9)
		given := slices.Clone(l)
		want := fib.May(l...)
		for range 3 {
			if fib.May(l...) != want {
				t.Error("another answer of the same shapes")
			}
		}
		if !slices.Equal(l, given) || !slices.Equal(l[:cap(l)][len(l):], make([]api.Shape, cap(l)-len(l))) {
			t.Error("the list was changed")
		}
	}
}

// heights tells of each number of leaves below n which heights a balanced tree
// of them may have: two balanced trees, at most one level apart, side by side.
func heights(n int) []map[int]bool {
	l := make([]map[int]bool, n)
	for leaves := range l {
		l[leaves] = map[int]bool{}
		if leaves == 1 {
			l[1][0] = true
		}
		for left := 1; left < leaves; left++ {
			for a := range l[left] {
				for b := range l[leaves-left] {
					if a-b >= -1 && a-b <= 1 {
						l[leaves][max(a, b)+1] = true
					}
				}
			}
		}
	}
	return l
}

// 4.3: of all balanced trees none has fewer leaves than Least or is higher
// than Most, some has and is just that, and all of them may be.
func TestHeightsAreByFibonacci(t *testing.T) {
	fewest := map[int]int{}
	for leaves, l := range heights(300) {
		highest := -1
		for h := range l {
			highest = max(highest, h)
			if n, ok := fewest[h]; !ok || leaves < n {
				fewest[h] = leaves
			}
			s := api.Shape{Len: leaves * api.BlockBits, Height: h, Leaves: leaves, Nodes: 2*leaves - 1}
			held(t, true, s)
			s.Len = max(leaves*32-32, 1)
			held(t, true, s)
			s.Len--
			held(t, false, s)
		}
		if h := fib.Most(leaves); h != highest {
			t.Errorf("Most(%d): %d, where balanced trees are up to %d high", leaves, h, highest)
		}
		s := api.Shape{Len: leaves * api.BlockBits, Height: highest + 1, Leaves: leaves, Nodes: 2*leaves - 1}
		held(t, false, s)
	}
	if len(fewest) != 12 {
		t.Errorf("%d heights met", len(fewest))
	}
	for h, leaves := range fewest {
		if n := fib.Least(h); n != leaves {
			t.Errorf("Least(%d): %d, where a balanced tree has %d", h, n, leaves)
		}
	}
}

// The chapter's example.
func TestExample(t *testing.T) {
	if n := fib.Least(3); n != 5 {
		t.Fatal(n)
	}
}
