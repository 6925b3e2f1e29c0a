package tree_test

import (
	"math"
	"slices"
	"testing"

	"scrimshaw/api"
	"scrimshaw/fib"
	"scrimshaw/tree"
)

// far: places that no tree of these tests has.
var far = []int{math.MinInt, math.MinInt + 1, math.MinInt32, -129, -128, -2, -1, 1 << 20, math.MaxInt32, 1 << 32, math.MaxInt - 1, math.MaxInt}

// chance tells numbers of no order, the same ones in each run.
type chance uint64

func (c *chance) below(n int) int {
	*c ^= *c << 13
	*c ^= *c >> 7
	*c ^= *c << 17
	return int(*c>>16) % n
}

func newChance() *chance {
	c := chance(88172645463325252)
	return &c
}

func (c *chance) list(n int) []bool {
	l := make([]bool, n)
	for k := range l {
		l[k] = c.below(3) == 0
	}
	return l
}

func count(l []bool, bit bool) int {
	n := 0
	for _, b := range l {
		if b == bit {
			n++
		}
	}
	return n
}

func place(l []bool, j int, bit bool) int {
	for k, b := range l {
		if b == bit {
			if j == 0 {
				return k
			}
			j--
		}
	}
	return -1
}

// pair is a tree and a plain list of bits beside it.
type pair struct {
	t    *testing.T
	tr   *tree.Tree
	l    []bool
	most int // that Live ever was behind a call
}

func newPair(t *testing.T, l ...bool) *pair {
	t.Helper()
	p := &pair{t: t, tr: tree.New(l...), l: slices.Clone(l)}
	if p.tr == nil || p.tr.Visits() != 0 {
		t.Fatalf("New of %d: %v, Visits %d ahead of any call", len(l), p.tr, p.tr.Visits())
	}
	p.shaped()
	p.sameAll()
	return p
}

// shaped holds what is told of the nodes to 5.2.
func (p *pair) shaped() {
	p.t.Helper()
	s, live, made := p.tr.Shape(), p.tr.Live(), p.tr.Made()
	p.most = max(p.most, live)
	if p.tr.Len() != len(p.l) || p.tr.Ones() != count(p.l, true) || s.Len != len(p.l) {
		p.t.Fatalf("Len %d, Ones %d, Shape %+v: of %d bits, %d ones", p.tr.Len(), p.tr.Ones(), s, len(p.l), count(p.l, true))
	}
	if !fib.May(s) || s.Nodes != live {
		p.t.Fatalf("Shape %+v, Live %d", s, live)
	}
	if made < live || made > max(p.most, 4) {
		p.t.Fatalf("Made %d: Live is %d, was %d at most", made, live, p.most)
	}
}

func (p *pair) sameAll() {
	p.t.Helper()
	if got := p.tr.All(); !slices.Equal(got, p.l) {
		p.t.Fatalf("All of %d bits: %v, not %v", len(p.l), got, p.l)
	}
}

// looked holds Visits to its bound, behind a call on a tree that was that
// high ahead of it: and to some, if the call came to a bit.
func (p *pair) looked(call string, height int, found bool) {
	p.t.Helper()
	most := 8 * (max(height, p.tr.Shape().Height) + 2)
	if v := p.tr.Visits(); v < 0 || v > most || found && v == 0 {
		p.t.Fatalf("%s: %d Visits, %d at most", call, v, most)
	}
}

func (p *pair) get(k int) {
	p.t.Helper()
	height := p.tr.Shape().Height
	want, wantCode := false, api.ErrRange
	if k >= 0 && k < len(p.l) {
		want, wantCode = p.l[k], api.OK
	}
	if bit, code := p.tr.Get(k); bit != want || code != wantCode {
		p.t.Fatalf("Get %d of %d: %v, %d, not %v, %d", k, len(p.l), bit, code, want, wantCode)
	}
	p.looked("Get", height, wantCode == api.OK)
}

func (p *pair) rank(k int) {
	p.t.Helper()
	height := p.tr.Shape().Height
	first := p.l[:min(max(k, 0), len(p.l))]
	for _, bit := range []bool{false, true} {
		if n, want := p.tr.Rank(k, bit), count(first, bit); n != want {
			p.t.Fatalf("Rank %d, %v of %d: %d, not %d", k, bit, len(p.l), n, want)
		}
		p.looked("Rank", height, false)
	}
}

func (p *pair) choose(j int) {
	p.t.Helper()
	height := p.tr.Shape().Height
	for _, bit := range []bool{false, true} {
		want := -1
		if j >= 0 {
			want = place(p.l, j, bit)
		}
		if k := p.tr.Select(j, bit); k != want {
			p.t.Fatalf("Select %d, %v of %d: %d, not %d", j, bit, len(p.l), k, want)
		}
		p.looked("Select", height, want >= 0)
	}
}

// reads holds all that reads to the list, and the nodes to no change by it.
func (p *pair) reads(ks ...int) {
	p.t.Helper()
	s, live, made := p.tr.Shape(), p.tr.Live(), p.tr.Made()
	for _, k := range ks {
		p.get(k)
		p.rank(k)
		p.choose(k)
	}
	visits := p.tr.Visits()
	p.sameAll()
	p.shaped()
	if p.tr.Shape() != s || p.tr.Live() != live || p.tr.Made() != made {
		p.t.Fatalf("reading: %+v, %d, %d are %+v, %d, %d", s, live, made, p.tr.Shape(), p.tr.Live(), p.tr.Made())
	}
	if p.tr.Visits() != visits {
		p.t.Fatalf("Visits %d, then %d without a call of the five", visits, p.tr.Visits())
	}
}

// readsAll reads at each place, and beyond both ends.
func (p *pair) readsAll() {
	p.t.Helper()
	ks := slices.Clone(far)
	for k := -2; k < len(p.l)+3; k++ {
		ks = append(ks, k)
	}
	p.reads(append(ks, count(p.l, true), count(p.l, false), count(p.l, true)-1, count(p.l, false)-1)...)
}

func (p *pair) insert(k int, bit bool) {
	p.t.Helper()
	height := p.tr.Shape().Height
	want := api.ErrRange
	if k >= 0 && k <= len(p.l) {
		want = api.OK
		p.l = slices.Insert(p.l, k, bit)
	}
	if code := p.tr.Insert(k, bit); code != want {
		p.t.Fatalf("Insert %d, of then %d: %d, not %d", k, len(p.l), code, want)
	}
	p.looked("Insert", height, want == api.OK)
	p.shaped()
	p.get(k)
}

func (p *pair) delete(k int) {
	p.t.Helper()
	height := p.tr.Shape().Height
	want, wantCode := false, api.ErrRange
	if k >= 0 && k < len(p.l) {
		want, wantCode = p.l[k], api.OK
		p.l = slices.Delete(p.l, k, k+1)
	}
	if bit, code := p.tr.Delete(k); bit != want || code != wantCode {
		p.t.Fatalf("Delete %d, of then %d: %v, %d, not %v, %d", k, len(p.l), bit, code, want, wantCode)
	}
	p.looked("Delete", height, wantCode == api.OK)
	p.shaped()
	p.get(k)
}

// wrong tries all that is refused: nothing changes.
func (p *pair) wrong() {
	p.t.Helper()
	for _, k := range append([]int{len(p.l) + 1}, far...) {
		for _, bit := range []bool{false, true} {
			p.insert(k, bit)
		}
		p.delete(k)
	}
	p.delete(len(p.l))
	p.reads(-1, 0, len(p.l))
}

// 5.1: New, and what reads, of no bits, of one, about a block's bits and
// twice, four times as many, and of some thousands.
func TestNew(t *testing.T) {
	c := newChance()
	sizes := []int{0, 1, 2, 31, 32, 33, 63, 64, 65, 127, 128, 129, 130, 255, 256, 257, 258, 511, 512, 513, 1000}
	for _, n := range sizes {
		given := c.list(n)
		l := slices.Clone(given)
		p := newPair(t, l...)
		if !slices.Equal(l, given) {
			t.Fatalf("New of %d changed its list", n)
		}
		p.readsAll()
		p.wrong()
	}
	for _, n := range []int{4096, 5000, 9999, 20000} {
		p := newPair(t, c.list(n)...)
		p.reads(append(slices.Clone(far), -1, 0, 1, n/3, n/2, n-1, n, n+1, count(p.l, true), count(p.l, false), count(p.l, true)-1, count(p.l, false)-1)...)
		p.wrong()
	}
}

// 5.1: bits of one kind only; the other kind has no place.
func TestOneKind(t *testing.T) {
	for _, bit := range []bool{false, true} {
		for _, n := range []int{1, 64, 128, 129, 300} {
			p := newPair(t, slices.Repeat([]bool{bit}, n)...)
			p.readsAll()
			if p.tr.Rank(n, !bit) != 0 || p.tr.Select(0, !bit) != -1 || p.tr.Select(n-1, bit) != n-1 {
				t.Fatalf("%d of %v", n, bit)
			}
		}
	}
}

// 5.1, with rule 2: the list is not kept, what All tells is the caller's own.
func TestListsAreOwn(t *testing.T) {
	for _, n := range []int{1, 128, 129, 3000} {
		l := newChance().list(n)
		p := newPair(t, l...)
		for k := range l {
			l[k] = !l[k]
		}
		p.sameAll()
		all := p.tr.All()
		for k := range all {
			all[k] = !all[k]
		}
		all = append(all[:n/2], all...)
		p.reads(0, n/2, n-1)
		if len(all) != n+n/2 {
			t.Fatal("not a list of its own")
		}
	}
}

// way tells the place, of n, at which the bit goes in or out that is number i.
type way struct {
	name string
	at   func(i, n int) int
}

func ways(c *chance) []way {
	return []way{
		{"beginning", func(_, n int) int { return 0 }},
		{"end", func(_, n int) int { return n - 1 }},
		{"turns", func(i, n int) int { return i % 2 * (n - 1) }},
		{"midst", func(_, n int) int { return n / 2 }},
		{"no order", func(_, n int) int { return c.below(n) }},
	}
}

// 5.1, 5.2: filled at each of the places, and emptied from each.
func TestFilledAndEmptied(t *testing.T) {
	const most = 1300
	c := newChance()
	for _, in := range ways(c) {
		for _, out := range ways(c) {
			t.Run(in.name+", "+out.name, func(t *testing.T) {
				p := newPair(t)
				for i := range most {
					p.insert(in.at(i, len(p.l)+1), c.below(2) == 0)
					p.rank(c.below(len(p.l)))
					if i%97 == 0 {
						p.wrong()
					}
				}
				p.readsAll()
				for i := range most {
					p.delete(out.at(i, len(p.l)))
					if i%97 == 0 {
						p.wrong()
					}
				}
				p.readsAll()
			})
		}
	}
}

// 5.1, 5.2: what New laid is emptied from each of the places.
func TestNewEmptied(t *testing.T) {
	c := newChance()
	for _, out := range ways(c) {
		t.Run(out.name, func(t *testing.T) {
			for _, n := range []int{1, 129, 2500} {
				p := newPair(t, c.list(n)...)
				for i := range n {
					p.delete(out.at(i, len(p.l)))
				}
				p.readsAll()
			}
		})
	}
}

// 5.1, 5.2: bits come and go by turns, about sizes at which nodes do.
func TestComeAndGo(t *testing.T) {
	c := newChance()
	for _, n := range []int{0, 1, 31, 32, 63, 64, 127, 128, 129, 300, 2000} {
		p := newPair(t, c.list(n)...)
		for i := range 1500 {
			for range c.below(4) {
				p.insert(c.below(len(p.l)+1), c.below(2) == 0)
			}
			for range c.below(4) {
				p.delete(c.below(len(p.l) + 1))
			}
			if i%50 == 0 {
				p.reads(0, c.below(len(p.l)+1), len(p.l))
			}
		}
		p.readsAll()
	}
}

// 5.2: at one place, bits come and go over the same edge again and again: no
// node is lost.
func TestOverTheEdge(t *testing.T) {
	for n := range 300 {
		p := newPair(t, make([]bool, n)...)
		for range 20 {
			p.insert(n/2, true)
			p.insert(n/2, false)
			p.delete(n / 2)
			p.delete(n / 2)
		}
		p.sameAll()
	}
}

// 5.1, 5.2: the last bit goes, the first comes again.
func TestLastAndFirst(t *testing.T) {
	p := newPair(t)
	if s := p.tr.Shape(); s != (api.Shape{}) || p.tr.Live() != 0 {
		t.Fatalf("without bits: %+v, %d", s, p.tr.Live())
	}
	for range 10 {
		p.insert(0, true)
		if s := p.tr.Shape(); s != (api.Shape{Len: 1, Leaves: 1, Nodes: 1}) || p.tr.Live() != 1 {
			t.Fatalf("of one bit: %+v, %d", s, p.tr.Live())
		}
		p.readsAll()
		p.delete(0)
		if s := p.tr.Shape(); s != (api.Shape{}) || p.tr.Live() != 0 || p.tr.All() != nil && len(p.tr.All()) != 0 {
			t.Fatalf("without bits again: %+v, %d", s, p.tr.Live())
		}
		p.readsAll()
		p.wrong()
	}
}

// 5.2: an emptied tree keeps no node, and the next one takes none anew.
func TestNodesAreUsedAgain(t *testing.T) {
	p := newPair(t, newChance().list(5000)...)
	made := p.tr.Made()
	for range 3 {
		for len(p.l) > 0 {
			p.delete(len(p.l) / 2)
		}
		if p.tr.Live() != 0 || p.tr.Made() != made {
			t.Fatalf("emptied: Live %d, Made %d of %d", p.tr.Live(), p.tr.Made(), made)
		}
		for len(p.l) < 2000 {
			p.insert(len(p.l), true)
		}
		if p.tr.Made() != made {
			t.Fatalf("filled again: Made %d of %d", p.tr.Made(), made)
		}
	}
}

// 5.2: Visits is of the last call alone: of each of the five, made over and
// over without another between.
func TestVisits(t *testing.T) {
	const n = 3000
	calls := []struct {
		name string
		call func(p *pair, i int)
	}{
		{"Get", func(p *pair, i int) { p.tr.Get(i) }},
		{"Rank", func(p *pair, i int) { p.tr.Rank(i, i%2 == 0) }},
		{"Select", func(p *pair, i int) { p.tr.Select(i/4, i%2 == 0) }},
		{"Insert", func(p *pair, i int) { p.tr.Insert(n/2, i%2 == 0) }},
		{"Delete", func(p *pair, i int) { p.tr.Delete(n / 2) }},
		{"wrong Get", func(p *pair, i int) { p.tr.Get(-1) }},
		{"wrong Select", func(p *pair, i int) { p.tr.Select(-1, true) }},
		{"wrong Insert", func(p *pair, i int) { p.tr.Insert(-1, true) }},
		{"wrong Delete", func(p *pair, i int) { p.tr.Delete(-1) }},
	}
	for _, c := range calls {
		p := newPair(t, newChance().list(n)...)
		for i := range n / 2 {
			height := p.tr.Shape().Height
			c.call(p, i)
			p.looked(c.name, height, c.name[0] != 'w')
		}
	}
}

// 5.3: of very many bits few nodes are looked at.
func TestFewSteps(t *testing.T) {
	c := newChance()
	tr := tree.New()
	const n = 300000
	for i := range n {
		if tr.Insert(c.below(i+1), c.below(2) == 0) != api.OK {
			t.Fatal(i)
		}
		// So few leaves as there may be at most are no higher than this.
		most := 8 * (fib.Most(4*(i+1)/api.BlockBits+1) + 2)
		if v := tr.Visits(); v < 1 || v > most {
			t.Fatalf("%d Visits of %d bits, %d at most", v, i+1, most)
		}
	}
	if s := tr.Shape(); !fib.May(s) || s.Len != n {
		t.Fatalf("%+v", s)
	}
	for range n {
		if _, code := tr.Delete(c.below(tr.Len())); code != api.OK || !fib.May(tr.Shape()) {
			t.Fatalf("%d of %+v", code, tr.Shape())
		}
	}
	if tr.Live() != 0 {
		t.Fatal(tr.Live())
	}
}

// 5.1, 5.2: the calls of nil.
func TestNil(t *testing.T) {
	var none *tree.Tree
	if none.Len() != 0 || none.Ones() != 0 || len(none.All()) != 0 {
		t.Fatal("nil has bits")
	}
	if none.Shape() != (api.Shape{}) || none.Live() != 0 || none.Made() != 0 || none.Visits() != 0 {
		t.Fatal("nil has nodes")
	}
	for _, k := range append([]int{0, 1}, far...) {
		for _, bit := range []bool{false, true} {
			if none.Rank(k, bit) != 0 || none.Select(k, bit) != -1 || none.Insert(k, bit) != api.ErrState {
				t.Fatalf("nil at %d", k)
			}
		}
		if bit, code := none.Get(k); bit || code != api.ErrState {
			t.Fatalf("Get of nil: %v, %d", bit, code)
		}
		if bit, code := none.Delete(k); bit || code != api.ErrState {
			t.Fatalf("Delete of nil: %v, %d", bit, code)
		}
	}
}

// Rule 1: a tree that New did not make is one without bits.
func TestZero(t *testing.T) {
	p := &pair{t: t, tr: &tree.Tree{}}
	p.readsAll()
	p.wrong()
	for range 200 {
		p.insert(0, true)
	}
	p.readsAll()
}
