package wave_test

import (
	"math"
	"slices"
	"testing"

	"scrimshaw/api"
	"scrimshaw/fib"
	"scrimshaw/sym"
	"scrimshaw/tree"
	"scrimshaw/wave"
)

// far: places that no wave of these tests has.
var far = []int{math.MinInt, math.MinInt + 1, math.MinInt32, -257, -129, -2, -1, 1 << 20, math.MaxInt32, 1 << 32, math.MaxInt - 1, math.MaxInt}

// noSymbol are numbers below the first symbol and above the last.
var noSymbol = []int{math.MinInt, math.MinInt + 1, math.MinInt32, -257, -256, -2, -1, 257, 258, 511, 512, 513, math.MaxInt32, 1 << 32, 1<<32 + 1, math.MaxInt - 1, math.MaxInt}

// chance tells numbers of no order, the same ones in each run.
type chance uint64

func (c *chance) below(n int) int {
	*c ^= *c << 13
	*c ^= *c >> 7
	*c ^= *c << 17
	return int(*c>>16) % n
}

func newChance() *chance {
	c := chance(88172645463325252)
	return &c
}

// some are some symbols of those given.
func (c *chance) some(n int, of ...int) []int {
	l := make([]int, n)
	for k := range l {
		l[k] = of[c.below(len(of))]
	}
	return l
}

func every() []int {
	l := make([]int, api.Symbols)
	for s := range l {
		l[s] = s
	}
	return l
}

func count(l []int, s int) int {
	n := 0
	for _, o := range l {
		if o == s {
			n++
		}
	}
	return n
}

func place(l []int, j, s int) int {
	for k, o := range l {
		if o == s {
			if j == 0 {
				return k
			}
			j--
		}
	}
	return -1
}

// bits are what 7.2 asks of a level's path.
func bits(l []int, level, path int) []bool {
	var b []bool
	for _, s := range l {
		if level >= 0 && level < api.Levels && sym.Path(s, level) == path {
			b = append(b, sym.Bit(s, level))
		}
	}
	return b
}

// lengths are how many symbols go through each tree that has any, by levels,
// then paths.
func lengths(l []int) []int {
	var ns []int
	for level := range api.Levels {
		on := make([]int, 1<<level)
		for _, s := range l {
			on[sym.Path(s, level)]++
		}
		for _, n := range on {
			if n > 0 {
				ns = append(ns, n)
			}
		}
	}
	return ns
}

func greatest(shapes []api.Shape) int {
	h := 0
	for _, s := range shapes {
		h = max(h, s.Height)
	}
	return h
}

// pair is a wave and a plain list of symbols beside it.
type pair struct {
	t *testing.T
	w *wave.Wave
	l []int
}

func newPair(t *testing.T, l ...int) *pair {
	t.Helper()
	w, code := wave.New(l...)
	if w == nil || code != api.OK || w.Visits() != 0 {
		t.Fatalf("New of %d: %v, %d, Visits %d ahead of any call", len(l), w, code, w.Visits())
	}
	p := &pair{t: t, w: w, l: slices.Clone(l)}
	p.same()
	return p
}

// shaped holds the shapes to 7.2, and each to 5.2.
func (p *pair) shaped() {
	p.t.Helper()
	shapes := p.w.Shapes()
	if !fib.May(shapes...) {
		p.t.Fatalf("shapes of %d: %+v", len(p.l), shapes)
	}
	var got []int
	for _, s := range shapes {
		got = append(got, s.Len)
	}
	if want := lengths(p.l); !slices.Equal(got, want) {
		p.t.Fatalf("shapes of %d: of %v, not of %v", len(p.l), got, want)
	}
}

func (p *pair) levels() {
	p.t.Helper()
	for level := range api.Levels {
		for path := range 1 << level {
			if got, want := p.w.Level(level, path), bits(p.l, level, path); !slices.Equal(got, want) {
				p.t.Fatalf("Level %d, %d of %d: %v, not %v", level, path, len(p.l), got, want)
			}
		}
	}
}

// same holds all that is kept to the list.
func (p *pair) same() {
	p.t.Helper()
	if n := p.w.Len(); n != len(p.l) {
		p.t.Fatalf("Len %d, not %d", n, len(p.l))
	}
	if got := p.w.All(); !slices.Equal(got, p.l) {
		p.t.Fatalf("All of %d: %v, not %v", len(p.l), got, p.l)
	}
	p.levels()
	p.shaped()
}

// looked holds Visits to its bound, behind a call on a wave that was that high
// ahead of it: and to some on each level, if the call came to a symbol.
func (p *pair) looked(call string, height int, found bool) {
	p.t.Helper()
	most := api.Levels * 8 * (max(height, greatest(p.w.Shapes())) + 2)
	v := p.w.Visits()
	if v < 0 || v > most || found && v < api.Levels {
		p.t.Fatalf("%s of %d: %d Visits, %d at most", call, len(p.l), v, most)
	}
}

func (p *pair) get(k int) {
	p.t.Helper()
	want, wantCode := -1, api.ErrRange
	if k >= 0 && k < len(p.l) {
		want, wantCode = p.l[k], api.OK
	}
	if s, code := p.w.Get(k); s != want || code != wantCode {
		p.t.Fatalf("Get %d of %d: %d, %d, not %d, %d", k, len(p.l), s, code, want, wantCode)
	}
	p.looked("Get", 0, wantCode == api.OK)
}

func (p *pair) rank(k, s int) {
	p.t.Helper()
	want := count(p.l[:min(max(k, 0), len(p.l))], s)
	if n := p.w.Rank(k, s); n != want {
		p.t.Fatalf("Rank %d, %d of %d: %d, not %d", k, s, len(p.l), n, want)
	}
	p.looked("Rank", 0, want > 0)
}

func (p *pair) choose(j, s int) {
	p.t.Helper()
	want := -1
	if j >= 0 {
		want = place(p.l, j, s)
	}
	if k := p.w.Select(j, s); k != want {
		p.t.Fatalf("Select %d, %d of %d: %d, not %d", j, s, len(p.l), k, want)
	}
	p.looked("Select", 0, want >= 0)
}

// reads holds all that reads to the list, and the wave to no change by it.
func (p *pair) reads(ks, ss []int) {
	p.t.Helper()
	shapes := p.w.Shapes()
	for _, k := range ks {
		p.get(k)
		for _, s := range ss {
			p.rank(k, s)
			p.choose(k, s)
		}
	}
	visits := p.w.Visits()
	p.same()
	if p.w.Visits() != visits {
		p.t.Fatalf("Visits %d, then %d without a call of the five", visits, p.w.Visits())
	}
	if got := p.w.Shapes(); !slices.Equal(got, shapes) {
		p.t.Fatalf("reading: %+v is %+v", shapes, got)
	}
}

// readsAll reads at each place, and beyond both ends: of some symbols.
func (p *pair) readsAll(ss ...int) {
	p.t.Helper()
	ks := slices.Clone(far)
	for k := -2; k < len(p.l)+3; k++ {
		ks = append(ks, k)
	}
	p.reads(ks, ss)
}

// ends asks of each symbol its first and last place, and one more.
func (p *pair) ends() {
	p.t.Helper()
	for s := range api.Symbols {
		n := count(p.l, s)
		p.choose(0, s)
		p.choose(n-1, s)
		p.choose(n, s)
		p.choose(-1, s)
		p.rank(len(p.l), s)
	}
}

func (p *pair) insert(k, s int) {
	p.t.Helper()
	height := greatest(p.w.Shapes())
	want := api.OK
	switch {
	case s < 0 || s >= api.Symbols:
		want = api.ErrArg
	case k < 0 || k > len(p.l):
		want = api.ErrRange
	default:
		p.l = slices.Insert(p.l, k, s)
	}
	if code := p.w.Insert(k, s); code != want {
		p.t.Fatalf("Insert %d, %d, of then %d: %d, not %d", k, s, len(p.l), code, want)
	}
	p.looked("Insert", height, want == api.OK)
	p.shaped()
	p.get(k)
}

func (p *pair) delete(k int) {
	p.t.Helper()
	height := greatest(p.w.Shapes())
	want, wantCode := -1, api.ErrRange
	if k >= 0 && k < len(p.l) {
		want, wantCode = p.l[k], api.OK
		p.l = slices.Delete(p.l, k, k+1)
	}
	if s, code := p.w.Delete(k); s != want || code != wantCode {
		p.t.Fatalf("Delete %d, of then %d: %d, %d, not %d, %d", k, len(p.l), s, code, want, wantCode)
	}
	p.looked("Delete", height, wantCode == api.OK)
	p.shaped()
	p.get(k)
}

// wrong tries all that is refused: nothing changes.
func (p *pair) wrong() {
	p.t.Helper()
	shapes := p.w.Shapes()
	for _, k := range append([]int{len(p.l) + 1}, far...) {
		for _, s := range []int{0, 1, 98, 256} {
			p.insert(k, s)
		}
		p.delete(k)
	}
	p.delete(len(p.l))
	for _, s := range noSymbol {
		for _, k := range []int{math.MinInt, -1, 0, len(p.l), len(p.l) + 1, math.MaxInt} {
			p.insert(k, s)
			p.rank(k, s)
			p.choose(k, s)
		}
	}
	p.same()
	if got := p.w.Shapes(); !slices.Equal(got, shapes) {
		p.t.Fatalf("refused calls: %+v is %+v", shapes, got)
	}
}

// lists are of no symbol, of one, of few, of all 257, of thousands.
func lists() [][]int {
	c := newChance()
	back := every()
	slices.Reverse(back)
	return [][]int{
		nil, {}, {0}, {1}, {128}, {255}, {256}, {0, 256}, {256, 0}, {98, 99, 0, 98},
		every(), back,
		c.some(300, 0, 256), c.some(400, 97, 98, 99), c.some(500, every()...),
		c.some(3000, 1, 2, 128, 129, 255, 256), c.some(5000, every()...),
		slices.Repeat([]int{0}, 2000), slices.Repeat([]int{256}, 2000), slices.Repeat([]int{98}, 3000),
	}
}

// 7.1: New, and what reads, of all of these lists.
func TestNew(t *testing.T) {
	for _, given := range lists() {
		l := slices.Clone(given)
		p := newPair(t, l...)
		if !slices.Equal(l, given) {
			t.Fatalf("New of %d changed its list", len(l))
		}
		p.ends()
		if len(l) < 600 {
			p.readsAll(0, 98, 128, 256)
		} else {
			n := len(l)
			p.reads(append([]int{-1, 0, 1, n / 3, n / 2, n - 1, n, n + 1}, far...), []int{0, 98, 128, 256})
		}
		p.wrong()
	}
}

// 7.1: what is no symbol makes no wave, wherever it stands, and is not a
// change to the list.
func TestNewOfNoSymbol(t *testing.T) {
	for _, n := range []int{1, 2, 3, 300} {
		for _, s := range noSymbol {
			for _, k := range []int{0, n / 2, n - 1} {
				l := slices.Repeat([]int{98}, n)
				l[k] = s
				given := slices.Clone(l)
				if w, code := wave.New(l...); w != nil || code != api.ErrArg {
					t.Fatalf("New of %d with %d at %d: %v, %d", n, s, k, w, code)
				}
				if !slices.Equal(l, given) {
					t.Fatalf("New of %d with %d at %d changed its list", n, s, k)
				}
			}
		}
	}
	if w, code := wave.New(257, -1); w != nil || code != api.ErrArg {
		t.Fatalf("New of 257, -1: %v, %d", w, code)
	}
}

// 7.1, with rule 2: the list is not kept, what is told is the caller's own.
func TestListsAreOwn(t *testing.T) {
	for _, n := range []int{1, 2, 257, 3000} {
		l := newChance().some(n, every()...)
		p := newPair(t, l...)
		for k := range l {
			l[k] = -7
		}
		p.same()
		all := p.w.All()
		for k := range all {
			all[k] = -7
		}
		for level := range api.Levels {
			for path := range 1 << level {
				b := p.w.Level(level, path)
				for k := range b {
					b[k] = !b[k]
				}
			}
		}
		shapes := p.w.Shapes()
		for k := range shapes {
			shapes[k] = api.Shape{Len: -1, Height: -1, Leaves: -1, Nodes: -1}
		}
		p.same()
		p.insert(n/2, 98)
		p.delete(0)
		p.same()
		for _, s := range append(all, l...) {
			if s != -7 {
				t.Fatal("not a list of its own")
			}
		}
	}
}

// 7.1: at each place of a short wave, each symbol goes in, and out.
func TestEachSymbol(t *testing.T) {
	p := newPair(t, 98, 0, 99, 256)
	for s := range api.Symbols {
		for k := range len(p.l) + 1 {
			p.insert(k, s)
			if got := p.w.All(); !slices.Equal(got, p.l) {
				t.Fatalf("%d at %d: %v, not %v", s, k, got, p.l)
			}
			p.delete(k)
		}
	}
	p.same()
	p.ends()
}

// way tells the place, of n, at which the symbol goes in or out that is
// number i.
type way struct {
	name string
	at   func(i, n int) int
}

func ways(c *chance) []way {
	return []way{
		{"beginning", func(_, n int) int { return 0 }},
		{"end", func(_, n int) int { return n - 1 }},
		{"turns", func(i, n int) int { return i % 2 * (n - 1) }},
		{"midst", func(_, n int) int { return n / 2 }},
		{"no order", func(_, n int) int { return c.below(n) }},
	}
}

// 7.1, 7.2: filled at each of the places, and emptied from each, with few
// different symbols and with many.
func TestFillAndEmpty(t *testing.T) {
	c := newChance()
	for _, of := range [][]int{{98}, {0, 256}, {97, 98, 99, 0}, every()} {
		for _, in := range ways(c) {
			for _, out := range ways(c) {
				p := newPair(t)
				for i := range 300 {
					p.insert(in.at(i, len(p.l)+1), of[c.below(len(of))])
				}
				p.same()
				p.reads([]int{-1, 0, 150, 299, 300}, []int{0, 98, 256, of[0]})
				for i := range 300 {
					p.delete(out.at(i, len(p.l)))
				}
				p.same()
				p.wrong()
			}
		}
	}
}

// 7.1: the same list at once, from the front, and from the back, is the same
// wave but for how trees turn.
func TestAtOnceOrOneByOne(t *testing.T) {
	for _, l := range [][]int{every(), newChance().some(1500, 97, 98, 99, 0), newChance().some(1500, every()...)} {
		once, front, back := newPair(t, l...), newPair(t), newPair(t)
		for k := range l {
			front.insert(k, l[k])
			back.insert(0, l[len(l)-1-k])
		}
		for _, p := range []*pair{once, front, back} {
			if !slices.Equal(p.l, l) {
				t.Fatal("the plain lists are not the same")
			}
			p.same()
			p.ends()
			p.reads([]int{-1, 0, len(l) / 2, len(l) - 1, len(l)}, []int{0, 97, 98, 256})
		}
	}
}

// 7.1: one symbol some thousand times: 0 and 256 too.
func TestOneSymbol(t *testing.T) {
	c := newChance()
	for _, s := range []int{0, 1, 98, 128, 255, 256} {
		p := newPair(t)
		for range 2000 {
			p.insert(c.below(len(p.l)+1), s)
		}
		p.same()
		if got := len(p.w.Shapes()); got != api.Levels {
			t.Fatalf("%d trees of one symbol", got)
		}
		p.ends()
		p.reads([]int{0, 1000, 1999, 2000}, []int{0, 1, 98, 128, 255, 256})
		for range 2000 {
			p.delete(c.below(len(p.l)))
		}
		p.same()
	}
}

// 7.2: no level and no path but those of symbols have bits.
func TestLevelOfNone(t *testing.T) {
	for _, l := range lists() {
		w, _ := wave.New(l...)
		for _, path := range append([]int{0, 1, 2, 255, 256, 257, 511, 512}, far...) {
			for _, level := range append([]int{9, 10, 63, 64, 65}, far...) {
				if b := w.Level(level, path); len(b) != 0 {
					t.Fatalf("Level %d, %d: %v", level, path, b)
				}
			}
		}
		for level := range api.Levels {
			for _, path := range append([]int{1 << level, 1<<level + 1, 2 << level, 1 << 20, 1<<32 + 1, 1 << 62, -1 << level}, far...) {
				if b := w.Level(level, path); len(b) != 0 {
					t.Fatalf("Level %d, %d: %v", level, path, b)
				}
			}
			for path := sym.Path(256, level) + 1; path < 1<<level; path++ {
				if b := w.Level(level, path); len(b) != 0 {
					t.Fatalf("Level %d, %d, a path of no symbol: %v", level, path, b)
				}
			}
		}
	}
}

// 7.2: the trees of a path go with its last symbol, and come with its next.
func TestPathsGo(t *testing.T) {
	p := newPair(t, 98, 99, 256, 98, 0, 256, 99)
	for _, s := range []int{99, 256, 98, 0} {
		for k := place(p.l, 0, s); k >= 0; k = place(p.l, 0, s) {
			p.delete(k)
			p.same()
		}
		p.rank(len(p.l), s)
		p.choose(0, s)
	}
	if p.w.Len() != 0 || len(p.w.Shapes()) != 0 || len(p.w.All()) != 0 {
		t.Fatalf("not empty: %d, %v, %v", p.w.Len(), p.w.Shapes(), p.w.All())
	}
	for _, s := range []int{256, 0, 98} {
		p.insert(0, s)
		p.same()
	}
}

// T5: a wave that grows and shrinks again and again, and changes all its
// symbols, has each time no more nodes than at once built ones may have.
func TestNodesAreGivenBack(t *testing.T) {
	c := newChance()
	p := newPair(t)
	for round := range 6 {
		of := []int{round * 40, round*40 + 1, 256 - round}
		for range 700 {
			p.insert(c.below(len(p.l)+1), of[c.below(3)])
		}
		for len(p.l) > 20 {
			p.delete(c.below(len(p.l)))
		}
		p.same()
	}
	for len(p.l) > 0 {
		p.delete(0)
	}
	p.same()
}

// 7.1, 7.2: in and out at places of no order, some of them wrong.
func TestLongRun(t *testing.T) {
	c := newChance()
	for _, of := range [][]int{{0, 256}, {0, 97, 98, 99, 100}, every()} {
		p := newPair(t, c.some(400, of...)...)
		for i := range 3000 {
			s, k := of[c.below(len(of))], c.below(len(p.l)+3)-1
			switch {
			case c.below(40) == 0:
				p.insert(k, noSymbol[c.below(len(noSymbol))])
			case c.below(2) == 0:
				p.insert(k, s)
			default:
				p.delete(k)
			}
			p.rank(c.below(len(p.l)+3)-1, s)
			p.choose(c.below(20)-1, s)
			if i%300 == 0 {
				p.same()
			}
		}
		p.same()
		p.ends()
	}
}

// 7.2: Visits are those of the five calls together, on each level's tree: not
// fewer than a way down each asks for.
func TestVisits(t *testing.T) {
	p := newPair(t, 98)
	for _, c := range []struct {
		name  string
		call  func()
		least int
	}{
		{"Get", func() { p.get(0) }, 9},
		{"Rank", func() { p.rank(1, 98) }, 9},
		{"Select", func() { p.choose(0, 98) }, 9},
	} {
		c.call()
		v := p.w.Visits()
		if v < c.least || v > 9*8*2 {
			t.Errorf("%s: %d Visits", c.name, v)
		}
		c.call()
		if p.w.Visits() != v {
			t.Errorf("%s: %d Visits, then %d", c.name, v, p.w.Visits())
		}
		p.w.Len()
		p.w.All()
		p.w.Level(0, 0)
		p.w.Shapes()
		if p.w.Visits() != v {
			t.Errorf("%s: %d Visits, then %d without a call of the five", c.name, v, p.w.Visits())
		}
	}
	for _, c := range []struct {
		name string
		call func()
	}{
		{"Get", func() { p.w.Get(1) }},
		{"Rank of none", func() { p.w.Rank(0, 98) }},
		{"Rank of no symbol", func() { p.w.Rank(1, 257) }},
		{"Select of no symbol", func() { p.w.Select(0, 300) }},
		{"Insert of no symbol", func() { p.w.Insert(0, -1) }},
		{"Insert at no place", func() { p.w.Insert(2, 98) }},
		{"Delete", func() { p.w.Delete(-1) }},
	} {
		p.w.Get(0)
		c.call()
		if v := p.w.Visits(); v != 0 {
			t.Errorf("%s, refused: %d Visits", c.name, v)
		}
	}
}

// ofTrees asks the plain trees that stand below a list's symbol s, from the
// first level on or from the last, and tells what they looked at together.
func ofTrees(l []int, s int, back bool, ask func(tr *tree.Tree, bit bool) int) int {
	visits := 0
	for i := range api.Levels {
		level := i
		if back {
			level = api.Levels - 1 - i
		}
		tr := tree.New(bits(l, level, sym.Path(s, level))...)
		visits += ask(tr, sym.Bit(s, level))
	}
	return visits
}

// 7.2: Visits are just those that plain trees, asked alike, tell together.
func TestVisitsAreTheTrees(t *testing.T) {
	l := newChance().some(2000, 97, 98, 99, 0)
	for at := 0; at < len(l); at += 97 {
		s, k := l[at], at+1
		w, _ := wave.New(l...)
		rank := func(tr *tree.Tree, bit bool) int {
			k = tr.Rank(k, bit)
			return tr.Visits()
		}
		check := func(call string, want int) {
			t.Helper()
			if w.Visits() != want {
				t.Errorf("%s at %d: %d Visits, not %d", call, at, w.Visits(), want)
			}
		}

		w.Rank(at+1, s)
		check("Rank", ofTrees(l, s, false, rank))

		k--
		w.Select(k, s)
		check("Select", ofTrees(l, s, true, func(tr *tree.Tree, bit bool) int {
			k = tr.Select(k, bit)
			return tr.Visits()
		}))
		if k != at {
			t.Fatalf("the plain trees: %d, not %d", k, at)
		}

		w.Get(at)
		check("Get", ofTrees(l, s, false, func(tr *tree.Tree, bit bool) int {
			tr.Get(k)
			return tr.Visits() + rank(tr, bit)
		}))

		k = at
		w.Delete(at)
		check("Delete", ofTrees(l, s, false, func(tr *tree.Tree, bit bool) int {
			tr.Delete(k)
			return tr.Visits() + rank(tr, bit)
		}))

		k = at
		w, _ = wave.New(l...)
		w.Insert(at, s)
		check("Insert", ofTrees(l, s, false, func(tr *tree.Tree, bit bool) int {
			tr.Insert(k, bit)
			return tr.Visits() + rank(tr, bit)
		}))
	}
}

// 7.3: of many symbols a rank is told at few steps.
func TestFewSteps(t *testing.T) {
	c := newChance()
	const n = 200000
	w, _ := wave.New(c.some(n, every()...)...)
	h := greatest(w.Shapes())
	if most := fib.Most(4*n/api.BlockBits + 1); h > most {
		t.Fatalf("height %d, %d at most", h, most)
	}
	most := 0
	for range 2000 {
		w.Rank(c.below(n+1), c.below(api.Symbols))
		most = max(most, w.Visits())
	}
	if most == 0 || most > 9*8*(h+2) {
		t.Fatalf("%d Visits at most, of height %d", most, h)
	}
}

// 7.2: every call on nil.
func TestNil(t *testing.T) {
	var w *wave.Wave
	for _, k := range append([]int{0, 1, 9}, far...) {
		for _, s := range append([]int{0, 1, 98, 256}, noSymbol...) {
			if w.Rank(k, s) != 0 || w.Select(k, s) != -1 || w.Insert(k, s) != api.ErrState || len(w.Level(k, s)) != 0 {
				t.Fatalf("%d, %d on nil: %d, %d, %d, %v", k, s, w.Rank(k, s), w.Select(k, s), w.Insert(k, s), w.Level(k, s))
			}
		}
		if s, code := w.Get(k); s != -1 || code != api.ErrState {
			t.Fatalf("Get %d on nil: %d, %d", k, s, code)
		}
		if s, code := w.Delete(k); s != -1 || code != api.ErrState {
			t.Fatalf("Delete %d on nil: %d, %d", k, s, code)
		}
	}
	if w.Len() != 0 || len(w.All()) != 0 || len(w.Shapes()) != 0 || w.Visits() != 0 {
		t.Fatalf("nil: %d, %v, %v, %d", w.Len(), w.All(), w.Shapes(), w.Visits())
	}
}

// A wave that was not made by New is one without symbols.
func TestZero(t *testing.T) {
	p := &pair{t: t, w: &wave.Wave{}}
	p.same()
	p.wrong()
	p.insert(0, 98)
	p.insert(0, 256)
	p.same()
}

// 7: Rank of nothing.
func TestExample(t *testing.T) {
	w, code := wave.New()
	if code != api.OK || w.Rank(0, 0) != 0 || w.Rank(5, 98) != 0 || w.Len() != 0 {
		t.Errorf("of nothing: %d, %d, %d, %d", code, w.Rank(0, 0), w.Rank(5, 98), w.Len())
	}
}
