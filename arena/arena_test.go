package arena_test

import (
	"math"
	"slices"
	"testing"

	"scrimshaw/api"
	"scrimshaw/arena"
)

// never: numbers that no arena of these tests ever made.
var never = []int{math.MinInt, math.MinInt32, -129, -2, -1, 1000, api.MaxNodes - 1, api.MaxNodes, api.MaxNodes + 1, math.MaxInt32, 1 << 32, math.MaxInt}

// plain is what an arena is to tell, kept as plainly as can be.
type plain struct {
	most, made int
	freed      []int
}

func (p *plain) is(k int) bool {
	return k >= 0 && k < p.made && !slices.Contains(p.freed, k)
}

func (p *plain) take() (int, int) {
	if p.made-len(p.freed) >= p.most {
		return -1, api.ErrFull
	}
	if n := len(p.freed); n > 0 {
		k := p.freed[n-1]
		p.freed = p.freed[:n-1]
		return k, api.OK
	}
	p.made++
	return p.made - 1, api.OK
}

func (p *plain) free(l []int) int {
	for i, k := range l {
		if !p.is(k) || slices.Contains(l[:i], k) {
			return api.ErrNone
		}
	}
	p.freed = append(p.freed, l...)
	return api.OK
}

// same holds all that reads an arena against the plain one.
func same(t *testing.T, a *arena.Arena, p *plain) {
	t.Helper()
	if a.Live() != p.made-len(p.freed) || a.Made() != p.made {
		t.Fatalf("Live %d, Made %d: not %d, %d", a.Live(), a.Made(), p.made-len(p.freed), p.made)
	}
	for k := -3; k < p.made+3; k++ {
		if a.Is(k) != p.is(k) {
			t.Fatalf("Is %d: %v, of %d made, freed %v", k, a.Is(k), p.made, p.freed)
		}
	}
	for _, k := range never {
		if a.Is(k) {
			t.Fatalf("Is %d, of %d made", k, p.made)
		}
	}
}

// pair is an arena and the plain one beside it.
type pair struct {
	t *testing.T
	a *arena.Arena
	p *plain
}

func newPair(t *testing.T, most int) pair {
	t.Helper()
	a := arena.New(most)
	if a == nil {
		t.Fatalf("New %d: nil", most)
	}
	x := pair{t, a, &plain{most: most}}
	same(t, a, x.p)
	return x
}

func (x pair) take() int {
	x.t.Helper()
	k, code := x.a.Take()
	wantK, wantCode := x.p.take()
	if k != wantK || code != wantCode {
		x.t.Fatalf("Take: %d, %d, not %d, %d", k, code, wantK, wantCode)
	}
	same(x.t, x.a, x.p)
	return k
}

func (x pair) takes(n int) {
	x.t.Helper()
	for range n {
		x.take()
	}
}

func (x pair) free(want int, l ...int) {
	x.t.Helper()
	given := slices.Clone(l)
	code, wantCode := x.a.Free(l...), x.p.free(l)
	if code != wantCode || code != want {
		x.t.Fatalf("Free %v: %d, not %d (the plain one: %d)", l, code, want, wantCode)
	}
	if !slices.Equal(l, given) {
		x.t.Fatalf("Free %v: the list is now %v", given, l)
	}
	same(x.t, x.a, x.p)
}

// drawn takes until no freed number is left, and holds the order of them.
func (x pair) drawn(want ...int) {
	x.t.Helper()
	for _, k := range want {
		if got := x.take(); got != k {
			x.t.Fatalf("Take: %d, not %d of %v", got, k, want)
		}
	}
}

// 3.1: how many may be taken.
func TestNew(t *testing.T) {
	for _, most := range []int{math.MinInt, math.MinInt32, -api.MaxNodes, -2, -1, api.MaxNodes + 1, 2 * api.MaxNodes, 1 << 32, math.MaxInt} {
		if arena.New(most) != nil {
			t.Errorf("New %d: not nil", most)
		}
	}
	for _, most := range []int{0, 1, 2, 3, 100, api.MaxNodes - 1, api.MaxNodes} {
		x := newPair(t, most)
		x.takes(5)
		x.free(api.OK)
	}
}

// 3.1: an arena of many nodes costs nothing ahead of their being taken.
func TestNewIsSmall(t *testing.T) {
	var l []*arena.Arena
	for range 1000 {
		l = append(l, arena.New(api.MaxNodes))
	}
	for i, a := range l {
		if k, code := a.Take(); k != 0 || code != api.OK {
			t.Fatal(i, k, code)
		}
	}
}

// 3.1: numbers come from 0 on, until most are taken.
func TestTakeUpToMost(t *testing.T) {
	for most := range 40 {
		x := newPair(t, most)
		for want := range most {
			if k := x.take(); k != want {
				t.Fatalf("Take %d: %d", want, k)
			}
		}
		for range 3 {
			if k, code := x.a.Take(); k != -1 || code != api.ErrFull {
				t.Fatalf("Take of %d taken: %d, %d", most, k, code)
			}
			same(t, x.a, x.p)
		}
		if most == 0 {
			continue
		}
		x.free(api.OK, most/2)
		x.drawn(most / 2)
		if k := x.take(); k != -1 {
			t.Fatalf("Take of %d taken again: %d", most, k)
		}
	}
}

// 3.1: what was freed last comes first, and new numbers when none is left.
func TestFreedLastComesFirst(t *testing.T) {
	x := newPair(t, 100)
	x.takes(6)
	x.free(api.OK, 4)
	x.free(api.OK, 0)
	x.free(api.OK, 2)
	x.drawn(2, 0, 4, 6, 7)
	x.free(api.OK, 5, 1, 7)
	x.drawn(7)
	x.free(api.OK, 3)
	x.free(api.OK, 7)
	x.drawn(7, 3, 1, 5, 8)
}

// 3.1: several numbers in one call are freed in their order.
func TestFreeSeveral(t *testing.T) {
	for _, l := range [][]int{{0}, {0, 1}, {1, 0}, {2, 5, 3}, {5, 4, 3, 2, 1, 0}, {0, 1, 2, 3, 4, 5}, {3, 0, 5, 1, 4, 2}} {
		x := newPair(t, 7)
		x.takes(6)
		x.free(api.OK, l...)
		back := slices.Clone(l)
		slices.Reverse(back)
		x.drawn(append(back, 6, -1)...)
	}
}

// 3.1: no numbers at all are freed well, whatever is taken, and change nothing.
func TestFreeOfNone(t *testing.T) {
	x := newPair(t, 3)
	for range 5 {
		x.free(api.OK)
		x.free(api.OK, nil...)
		x.free(api.OK, []int{}...)
		x.take()
	}
	x.free(api.OK, 1)
	x.free(api.OK)
	x.drawn(1, -1)
}

// 3.1: one wrong number, wherever it stands, and nothing changes.
func TestFreeOfWrongOnes(t *testing.T) {
	wrong := append([]int{2, 5, 8, 9}, never...)
	for _, bad := range wrong {
		for at := range 4 {
			x := newPair(t, 20)
			x.takes(8)
			x.free(api.OK, 5, 2)
			x.free(api.ErrNone, bad)
			x.free(api.ErrNone, slices.Insert([]int{7, 0, 3}, at, bad)...)
			x.free(api.ErrNone, slices.Insert([]int{bad, bad}, min(at, 2), 6)...)
			x.drawn(2, 5, 8, 9)
		}
	}
}

// 3.1: a number twice in one call, wherever, and nothing changes.
func TestFreeOfOneTwice(t *testing.T) {
	for _, l := range [][]int{{0, 0}, {0, 0, 0}, {1, 3, 1}, {3, 1, 1}, {1, 1, 3}, {0, 1, 2, 3, 4, 0}, {4, 3, 2, 2}, {0, 1, 0, 1}, {0, 0, -1}, {-1, 0, 0}, {0, -1, 0}} {
		x := newPair(t, 6)
		x.takes(5)
		x.free(api.ErrNone, l...)
		x.drawn(5, -1)
		x.free(api.OK, 0, 1, 2, 3, 4, 5)
		x.free(api.ErrNone, l...)
		x.drawn(5, 4, 3, 2, 1, 0, -1)
	}
}

// 3.1: a number that is free already can't be freed, and can when it is taken again.
func TestFreeAgain(t *testing.T) {
	x := newPair(t, 4)
	x.free(api.ErrNone, 0)
	x.takes(4)
	for range 3 {
		x.free(api.OK, 1)
		x.free(api.ErrNone, 1)
		x.free(api.ErrNone, 0, 1)
		x.free(api.ErrNone, 1, 0)
		x.drawn(1, -1)
	}
}

// 3.1: a new arena's numbers are another's not.
func TestArenasStandApart(t *testing.T) {
	x, y := newPair(t, 9), newPair(t, 9)
	x.takes(5)
	same(t, y.a, y.p)
	y.free(api.ErrNone, 0)
	y.takes(2)
	x.free(api.OK, 0, 1)
	same(t, y.a, y.p)
	y.drawn(2)
	x.drawn(1, 0, 5)
}

// 3.1: what was handed in is its owner's, who changes it.
func TestListIsNotKept(t *testing.T) {
	x := newPair(t, 9)
	x.takes(8)
	l := make([]int, 3, 50)
	copy(l, []int{1, 4, 6})
	x.free(api.OK, l...)
	for i := range l {
		l[i] = 7
	}
	same(t, x.a, x.p)
	x.free(api.OK, 2)
	if got := l[:4]; !slices.Equal(got, []int{7, 7, 7, 0}) {
		t.Fatalf("behind another Free the list is %v", got)
	}
	x.drawn(2, 6, 4, 1, 8)
	wrong := []int{3, 0, 3}
	x.free(api.ErrNone, wrong...)
	wrong[2] = 5
	x.drawn(-1)
	x.free(api.OK, wrong...)
	wrong[0], wrong[1], wrong[2] = 0, 0, 0
	x.drawn(5, 0, 3, -1)
}

// 3.1: all calls of a nil arena.
func TestNilArena(t *testing.T) {
	for _, none := range []*arena.Arena{nil, arena.New(-1), arena.New(api.MaxNodes + 1)} {
		for range 2 {
			if k, code := none.Take(); k != -1 || code != api.ErrState {
				t.Errorf("Take: %d, %d", k, code)
			}
		}
		for _, l := range [][]int{nil, {}, {0}, {-1}, {0, 0}, {1, 2, 3}} {
			if code := none.Free(l...); code != api.ErrState {
				t.Errorf("Free %v: %d", l, code)
			}
		}
		for _, k := range append([]int{0, 1}, never...) {
			if none.Is(k) {
				t.Errorf("Is %d", k)
			}
		}
		if none.Live() != 0 || none.Made() != 0 {
			t.Errorf("Live %d, Made %d", none.Live(), none.Made())
		}
	}
}

// 3.1: an arena that New did not make is never more than an empty one.
func TestZeroArena(t *testing.T) {
	x := pair{t, &arena.Arena{}, &plain{}}
	x.drawn(-1)
	x.free(api.ErrNone, 0)
	x.free(api.OK)
}

// picks are numbers by a fixed rule.
type picks uint64

func (x *picks) below(n int) int {
	*x ^= *x << 13
	*x ^= *x >> 7
	*x ^= *x << 17
	return int(uint64(*x) >> 20 % uint64(n))
}

// some picks up to four numbers of those made, of which most are fit to be freed.
func (x *picks) some(made int) []int {
	var l []int
	for range x.below(5) {
		l = append(l, x.below(made+1)-x.below(20)/19)
	}
	return l
}

// 3.1: Take and Free by turns, all told behind each of them.
func TestLongRun(t *testing.T) {
	for _, most := range []int{1, 2, 5, 17, 60} {
		x, by := newPair(t, most), picks(most+12345)
		met := map[int]int{}
		for range 3000 {
			if by.below(3) > 0 {
				x.take()
				continue
			}
			l := by.some(x.p.made)
			want := (&plain{most: most, made: x.p.made, freed: slices.Clone(x.p.freed)}).free(l)
			x.free(want, l...)
			met[want]++
		}
		if met[api.OK] < 50 || met[api.ErrNone] < 50 {
			t.Fatalf("most %d: too few of a kind: %v", most, met)
		}
	}
}

// 3.2: however many nodes come and go, there are no more numbers than stood at once.
func TestFreedIsUsedAgain(t *testing.T) {
	a := arena.New(api.MaxNodes)
	by := picks(77)
	var held []int
	peak := 0
	for round := range 20000 {
		for range by.below(4) {
			k, code := a.Take()
			if code != api.OK || slices.Contains(held, k) {
				t.Fatalf("round %d: Take %d, %d, held %v", round, k, code, held)
			}
			held = append(held, k)
		}
		peak = max(peak, len(held))
		for len(held) > 30 || len(held) > 0 && by.below(2) == 0 {
			i := by.below(len(held))
			if code := a.Free(held[i]); code != api.OK {
				t.Fatalf("round %d: Free %d: %d", round, held[i], code)
			}
			held = slices.Delete(held, i, i+1)
		}
		if a.Live() != len(held) || a.Made() != peak {
			t.Fatalf("round %d: Live %d, Made %d, not %d, %d", round, a.Live(), a.Made(), len(held), peak)
		}
	}
}

// 3.2: what went back all at once comes all again, ahead of any new number.
func TestAllFreedIsUsedAgain(t *testing.T) {
	const n = 100000
	a := arena.New(n)
	var l []int
	for range n {
		k, _ := a.Take()
		l = append(l, k)
	}
	for range 5 {
		if code := a.Free(l...); code != api.OK || a.Live() != 0 || a.Made() != n {
			t.Fatal(code, a.Live(), a.Made())
		}
		slices.Reverse(l)
		for _, want := range l {
			if k, code := a.Take(); k != want || code != api.OK {
				t.Fatalf("Take: %d, %d, not %d", k, code, want)
			}
		}
		if k, code := a.Take(); k != -1 || code != api.ErrFull || a.Live() != n || a.Made() != n {
			t.Fatal(k, code, a.Live(), a.Made())
		}
	}
}

// The chapter's example.
func TestExample(t *testing.T) {
	a := arena.New(1)
	first, _ := a.Take()
	code := a.Free(0)
	second, last := a.Take()
	if first != 0 || code != api.OK || second != 0 || last != api.OK {
		t.Fatal(first, code, second, last)
	}
}
