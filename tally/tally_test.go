package tally_test

import (
	"bytes"
	"math"
	"math/big"
	"slices"
	"testing"

	"scrimshaw/api"
	"scrimshaw/tally"
)

// noSymbol are numbers below the first symbol and above the last.
var noSymbol = []int{
	math.MinInt, math.MinInt + 1, math.MinInt32, -1 << 40, -api.MaxLen, -258, -257, -256, -2, -1,
	257, 258, 511, 512, 513, math.MaxInt32, api.MaxLen, 1 << 32, 1<<32 + 1, 1 << 40, math.MaxInt - 1, math.MaxInt,
}

// wide are numbers that no symbol may be more or fewer by, whatever there is.
var wide = []int{
	math.MinInt, math.MinInt + 1, math.MinInt/2 - 1, math.MinInt / 2, -1 << 40, -1 << 32, -api.MaxLen - 1,
	api.MaxLen + 1, 1 << 32, 1 << 40, math.MaxInt / 2, math.MaxInt/2 + 1, math.MaxInt - api.MaxLen, math.MaxInt - 1, math.MaxInt,
}

// chance tells numbers of no order, the same ones in each run.
type chance uint64

func (c *chance) below(n int) int {
	*c ^= *c << 13
	*c ^= *c >> 7
	*c ^= *c << 17
	return int(*c>>16) % n
}

func newChance() *chance {
	c := chance(88172645463325252)
	return &c
}

func every() []int {
	l := make([]int, api.Symbols)
	for s := range l {
		l[s] = s
	}
	return l
}

// pair is a tally and plain numbers beside it.
type pair struct {
	t  *testing.T
	y  *tally.Tally
	of [api.Symbols]int
}

// newPair also holds New to changing no list, nor what stands behind it.
func newPair(t *testing.T, l ...int) *pair {
	t.Helper()
	room := append(slices.Clone(l), -7, 300)
	given := room[:len(l)]
	y, code := tally.New(given...)
	if y == nil || code != api.OK {
		t.Fatalf("New of %d: %v, %d", len(l), y, code)
	}
	if !slices.Equal(given, l) || room[len(l)] != -7 || room[len(l)+1] != 300 {
		t.Fatalf("New of %v: the list is now %v", l, room)
	}
	p := &pair{t: t, y: y}
	for _, s := range l {
		p.of[s]++
	}
	p.same()
	return p
}

func (p *pair) below(s int) int {
	n := 0
	for _, of := range p.of[:min(max(s, 0), api.Symbols)] {
		n += of
	}
	return n
}

func (p *pair) len() int {
	return p.below(api.Symbols)
}

// sorted is all symbols in their order: of few ones only.
func (p *pair) sorted() []int {
	var l []int
	for s, n := range p.of {
		l = append(l, slices.Repeat([]int{s}, n)...)
	}
	return l
}

// same holds all that reads a tally to the numbers.
func (p *pair) same() {
	p.t.Helper()
	if n := p.y.Len(); n != p.len() {
		p.t.Fatalf("Len %d, not %d", n, p.len())
	}
	for s, want := range p.of {
		if n := p.y.Of(s); n != want {
			p.t.Fatalf("Of %d: %d, not %d", s, n, want)
		}
	}
	below := 0
	for s, of := range p.of {
		if n := p.y.Below(s); n != below {
			p.t.Fatalf("Below %d: %d, not %d", s, n, below)
		}
		below += of
	}
	p.sameOfNone()
	p.samePlaces()
	p.sameNoPlaces()
}

func (p *pair) sameOfNone() {
	p.t.Helper()
	for _, s := range noSymbol {
		if n := p.y.Of(s); n != 0 {
			p.t.Fatalf("Of %d: %d", s, n)
		}
		want := 0
		if s > 0 {
			want = p.len()
		}
		if n := p.y.Below(s); n != want {
			p.t.Fatalf("Below %d: %d, not %d", s, n, want)
		}
	}
}

// samePlaces holds Which at each symbol's first place, its last one, and one
// between; of few symbols at every place.
func (p *pair) samePlaces() {
	p.t.Helper()
	first := 0
	for s, n := range p.of {
		if n == 0 {
			continue
		}
		for _, k := range []int{first, first + n/2, first + n - 1} {
			p.which(k, s)
		}
		first += n
	}
	if p.len() > 5000 {
		return
	}
	for k, s := range p.sorted() {
		p.which(k, s)
	}
}

func (p *pair) sameNoPlaces() {
	p.t.Helper()
	n := p.len()
	for _, k := range []int{math.MinInt, math.MinInt + 1, -api.MaxLen, -257, -2, -1, n, n + 1, n + 256, n + 257, api.MaxLen, api.MaxLen + 1, math.MaxInt - 1, math.MaxInt} {
		p.which(k, -1)
	}
}

func (p *pair) which(k, want int) {
	p.t.Helper()
	if s := p.y.Which(k); s != want {
		p.t.Fatalf("Which %d of %d: %d, not %d", k, p.len(), s, want)
	}
}

// allowed is what Add is to tell, by numbers that never come round.
func (p *pair) allowed(s, n int) int {
	if s < 0 || s >= api.Symbols {
		return api.ErrArg
	}
	more := big.NewInt(int64(n))
	one := new(big.Int).Add(big.NewInt(int64(p.of[s])), more)
	all := new(big.Int).Add(big.NewInt(int64(p.len())), more)
	if one.Sign() < 0 || all.Cmp(big.NewInt(api.MaxLen)) > 0 {
		return api.ErrRange
	}
	return api.OK
}

// add holds an Add to what is wanted, and to what the plain numbers say.
func (p *pair) add(want, s, n int) {
	p.t.Helper()
	allowed := p.allowed(s, n)
	if code := p.y.Add(s, n); code != allowed || code != want {
		p.t.Fatalf("Add %d, %d: %d, not %d (the plain one: %d)", s, n, code, want, allowed)
	}
	if allowed == api.OK {
		p.of[s] += n
	}
	p.same()
}

// 8.1: New of nothing.
func TestNewOfNothing(t *testing.T) {
	newPair(t)
	newPair(t, nil...)
	newPair(t, []int{}...)
}

// 8.1: New of each symbol alone, once and several times.
func TestNewOfOneSymbol(t *testing.T) {
	for s := range api.Symbols {
		newPair(t, s)
		newPair(t, s, s, s)
	}
}

// 8.1: New of all symbols, in several orders.
func TestNewOfEverySymbol(t *testing.T) {
	l := every()
	newPair(t, l...)
	newPair(t, append(l, l...)...)
	slices.Reverse(l)
	newPair(t, l...)
	for s := range l {
		l[s] = s * 100 % api.Symbols
	}
	newPair(t, l...)
}

// 8.1: New of some symbols, of which many between are missing.
func TestNewOfSome(t *testing.T) {
	for _, l := range [][]int{
		{98, 0, 99}, {98, 99, 98, 0}, {0, 256}, {256, 0}, {256, 256, 0, 0, 0}, {1, 255}, {128, 127, 128},
		{0, 64, 128, 192, 256}, {255, 256, 254}, {2, 1, 0}, {7, 7, 7, 7, 7, 7, 200},
	} {
		newPair(t, l...)
	}
}

// 8.1: New of thousands.
func TestNewOfThousands(t *testing.T) {
	c := newChance()
	for _, n := range []int{1000, 4999, 5001, 100000} {
		l := make([]int, n)
		for k := range l {
			l[k] = c.below(api.Symbols)
		}
		newPair(t, l...)
		for k := range l {
			l[k] = c.below(4) * 85
		}
		newPair(t, l...)
	}
}

// 8.1: New of what is no symbol, first, in the midst and last.
func TestNewOfNoSymbol(t *testing.T) {
	thousand := slices.Repeat([]int{5, 0, 256, 99}, 250)
	for _, bad := range noSymbol {
		for _, l := range [][]int{
			{bad}, {bad, bad}, {bad, 5}, {5, bad}, {5, bad, 256}, {0, 256, 99, bad}, {bad, 1, bad},
			slices.Insert(slices.Clone(thousand), 0, bad),
			slices.Insert(slices.Clone(thousand), 500, bad),
			slices.Insert(slices.Clone(thousand), 1000, bad),
		} {
			given := slices.Clone(l)
			if y, code := tally.New(l...); y != nil || code != api.ErrArg {
				t.Fatalf("New of %d with %d: %v, %d", len(l), bad, y, code)
			}
			if !slices.Equal(l, given) {
				t.Fatalf("New of %d with %d changed its list", len(l), bad)
			}
		}
	}
}

// 8.1, rule 2: what was handed in is its owner's, who changes it.
func TestListIsNotKept(t *testing.T) {
	l := []int{98, 0, 99, 98}
	y, _ := tally.New(l...)
	p := &pair{t: t, y: y}
	p.of[0], p.of[98], p.of[99] = 1, 2, 1
	for k := range l {
		l[k] = 200 + k
		p.same()
	}
	l[0], l[1], l[2] = -1, 257, math.MaxInt
	p.same()
	p.add(api.OK, 98, 1)
	if !slices.Equal(l, []int{-1, 257, math.MaxInt, 203}) {
		t.Fatalf("behind an Add the list is %v", l)
	}
}

// 8.1: Add of 0 changes nothing, of symbols that are there and that are not.
func TestAddOfZero(t *testing.T) {
	p := newPair(t, 98, 0, 99, 98)
	for s := range api.Symbols {
		p.add(api.OK, s, 0)
	}
	if p.len() != 4 {
		t.Fatal(p.len())
	}
}

// 8.1: Add of 1 and of -1, of each symbol, to none and to some.
func TestAddOfOne(t *testing.T) {
	for s := range api.Symbols {
		p := newPair(t, 0, 98, 256)
		p.add(api.OK, s, 1)
		p.add(api.OK, s, 1)
		p.add(api.OK, s, -1)
		p.add(api.OK, s, -1)
		if p.of[s] == 1 {
			p.add(api.OK, s, -1)
		}
		p.add(api.ErrRange, s, -1)
	}
}

// 8.1: Add of several at once, and of as many fewer.
func TestAddOfSeveral(t *testing.T) {
	p := newPair(t)
	p.add(api.OK, 99, 5)
	p.add(api.OK, 0, 1)
	p.add(api.OK, 256, 1000)
	p.add(api.OK, 99, -3)
	p.add(api.OK, 98, 7)
	p.add(api.OK, 256, -999)
	p.add(api.OK, 99, 40)
}

// 8.1: as many fewer as there are, and one fewer than that.
func TestAddBelowZero(t *testing.T) {
	for _, s := range []int{0, 1, 98, 255, 256} {
		for _, n := range []int{0, 1, 2, 3, 100, 1 << 20} {
			p := newPair(t, every()...)
			p.add(api.OK, s, n)
			p.add(api.ErrRange, s, -n-2)
			p.add(api.OK, s, -n-1)
			p.add(api.ErrRange, s, -1)
			p.add(api.OK, s, 0)
			p.add(api.OK, s, 1)
		}
	}
}

// 8.1: that there are many of the others makes room for none below 0.
func TestAddBelowZeroBesideOthers(t *testing.T) {
	p := newPair(t, 97, 99)
	p.add(api.OK, 97, 1000)
	p.add(api.OK, 99, 1000)
	p.add(api.ErrRange, 98, -1)
	p.add(api.ErrRange, 97, -1002)
	p.add(api.ErrRange, 99, -2000)
	p.add(api.OK, 99, -1001)
}

// 8.1: what is no symbol is told ahead of any number that is wrong as well.
func TestAddOfNoSymbol(t *testing.T) {
	for _, l := range [][]int{nil, {0}, {256}, {98, 0, 99}} {
		p := newPair(t, l...)
		for _, bad := range noSymbol {
			for _, n := range append([]int{-2, -1, 0, 1, 2, api.MaxLen, -api.MaxLen}, wide...) {
				if code := p.y.Add(bad, n); code != api.ErrArg {
					t.Fatalf("Add %d, %d: %d", bad, n, code)
				}
			}
			p.same()
		}
		p.add(api.ErrArg, -1, api.MaxLen+1)
		p.add(api.ErrArg, 257, -1)
	}
}

// 8.1: just MaxLen by one symbol alone, and no one more of any.
func TestMostByOne(t *testing.T) {
	for _, s := range []int{0, 1, 98, 255, 256} {
		p := newPair(t)
		p.add(api.ErrRange, s, api.MaxLen+1)
		p.add(api.OK, s, api.MaxLen)
		for _, other := range []int{0, 1, 97, 98, 99, 256} {
			p.add(api.ErrRange, other, 1)
			p.add(api.OK, other, 0)
		}
		p.add(api.ErrRange, s, -api.MaxLen-1)
		p.add(api.OK, s, -1)
		p.add(api.ErrRange, s, 2)
		p.add(api.OK, 99, 1)
		p.add(api.ErrRange, s, 1)
		p.add(api.OK, 99, -1)
		if p.of[s] > 0 {
			p.add(api.OK, s, -p.of[s])
		}
		p.add(api.OK, s, api.MaxLen-p.len())
	}
}

// 8.1: just MaxLen by several together, and no one more of any.
func TestMostBySeveral(t *testing.T) {
	p := newPair(t, every()...)
	p.add(api.OK, 98, 1<<30)
	p.add(api.OK, 256, 1<<29)
	p.add(api.ErrRange, 0, 1<<29)
	p.add(api.ErrRange, 0, 1<<29-256)
	p.add(api.OK, 0, 1<<29-257)
	if p.len() != api.MaxLen {
		t.Fatal(p.len())
	}
	for _, s := range []int{0, 1, 98, 200, 255, 256} {
		p.add(api.ErrRange, s, 1)
		p.add(api.ErrRange, s, api.MaxLen)
	}
	p.add(api.OK, 98, -5)
	p.add(api.ErrRange, 7, 6)
	p.add(api.OK, 7, 5)
	p.add(api.ErrRange, 7, 1)
	p.add(api.OK, 256, -1<<29-1)
	p.add(api.OK, 7, 1<<29+1)
}

// 8.1: what New counted is part of what there may be.
func TestMostBehindNew(t *testing.T) {
	p := newPair(t, 98, 98, 0)
	p.add(api.ErrRange, 98, api.MaxLen)
	p.add(api.ErrRange, 98, api.MaxLen-2)
	p.add(api.ErrRange, 5, api.MaxLen-2)
	p.add(api.OK, 5, api.MaxLen-3)
	p.add(api.ErrRange, 5, 1)
}

// 8.1: numbers as great and as small as they may be are refused, where a
// symbol has none, some, or all that there may be.
func TestAddOfWideNumbers(t *testing.T) {
	for _, has := range []int{0, 1, 2, 1000, 1 << 30, api.MaxLen - 1, api.MaxLen} {
		for _, s := range []int{0, 98, 256} {
			p := newPair(t)
			p.add(api.OK, s, has)
			for _, n := range wide {
				for _, to := range []int{0, 98, 256} {
					p.add(api.ErrRange, to, n)
				}
			}
			p.add(api.OK, s, -has)
		}
	}
}

// 8.1, rule 4: an Add that failed has left nothing, for what comes behind it.
func TestFailedAddLeavesNothing(t *testing.T) {
	p := newPair(t, 98, 0, 99)
	for has := 1; has <= 3; has++ {
		p.add(api.ErrRange, 98, -has-1)
		p.add(api.ErrRange, 98, math.MinInt)
		p.add(api.ErrRange, 99, math.MaxInt)
		p.add(api.ErrRange, 0, api.MaxLen-2)
		p.add(api.ErrArg, 257, 1)
		p.add(api.ErrArg, -1, 1)
		p.add(api.OK, 98, 1)
	}
	if p.y.Len() != 6 || p.y.Of(98) != 4 {
		t.Fatal(p.y.Len(), p.y.Of(98))
	}
}

// 8.1: Below of less than 0 is as of 0, of more than 256 as of 257.
func TestBelowOfNoSymbol(t *testing.T) {
	for _, l := range [][]int{nil, {0}, {256}, {0, 256}, {98, 99}, every()} {
		y, _ := tally.New(l...)
		for _, s := range noSymbol {
			want := 0
			if s > 0 {
				want = len(l)
			}
			if n := y.Below(s); n != want {
				t.Fatalf("Below %d of %v: %d, not %d", s, l, n, want)
			}
		}
		if y.Below(0) != 0 || y.Below(257) != len(l) || y.Below(256) != len(l)-y.Of(256) {
			t.Fatal(l, y.Below(0), y.Below(256), y.Below(257))
		}
	}
}

// 8.1: Which of each place, where many symbols between have none.
func TestWhichAcrossGaps(t *testing.T) {
	y, _ := tally.New(256, 0, 128, 256, 1, 128, 128)
	for k, want := range []int{0, 1, 128, 128, 128, 256, 256, -1} {
		if s := y.Which(k); s != want {
			t.Fatalf("Which %d: %d, not %d", k, s, want)
		}
	}
	if y.Which(-1) != -1 || y.Which(math.MaxInt) != -1 || y.Which(math.MinInt) != -1 {
		t.Fatal(y.Which(-1), y.Which(math.MaxInt), y.Which(math.MinInt))
	}
}

// 8.1: Which where all of a symbol were taken away again: the first ones, the
// last ones, those between, and at last all.
func TestWhichWhereAllWereTakenAway(t *testing.T) {
	for _, order := range [][]int{{0, 98, 200, 256}, {256, 200, 98, 0}, {98, 0, 256, 200}} {
		p := newPair(t, 0, 98, 98, 200, 256, 256)
		for _, s := range order {
			p.add(api.OK, s, -p.of[s])
		}
		p.which(0, -1)
		for _, s := range order {
			p.add(api.OK, s, 2)
			p.add(api.OK, s, -1)
		}
	}
}

// 8.1: a place that is as great as can be, of as many as there may be.
func TestWhichOfTheMost(t *testing.T) {
	p := newPair(t, 0)
	p.add(api.OK, 200, api.MaxLen-2)
	p.add(api.OK, 256, 1)
	p.which(0, 0)
	p.which(1, 200)
	p.which(api.MaxLen-2, 200)
	p.which(api.MaxLen-1, 256)
	p.which(api.MaxLen, -1)
}

// 8.1: Of, Below, Which and Len change nothing, and answer alike again.
func TestReadingChangesNothing(t *testing.T) {
	p := newPair(t, 98, 0, 99, 256, 98)
	before := *p.y
	for range 3 {
		p.same()
		if *p.y != before {
			t.Fatal("a tally changed while it was read")
		}
	}
	p.add(api.OK, 97, 1)
}

// 8.1: a tally's numbers are another's not.
func TestTalliesStandApart(t *testing.T) {
	l := []int{98, 0, 99}
	p, q := newPair(t, l...), newPair(t, l...)
	p.add(api.OK, 98, 5)
	q.same()
	q.add(api.OK, 0, -1)
	p.same()
	newPair(t, l...)
}

// 8.1: a tally that New did not make is never more than an empty one.
func TestZeroTally(t *testing.T) {
	p := &pair{t: t, y: &tally.Tally{}}
	p.same()
	p.add(api.ErrRange, 98, -1)
	p.add(api.OK, 98, 1)
}

// 8.1: all calls of a nil tally; an error of the arguments comes behind it.
func TestNilTally(t *testing.T) {
	refused, _ := tally.New(257)
	for _, none := range []*tally.Tally{nil, refused} {
		for _, s := range append([]int{0, 1, 98, 256}, noSymbol...) {
			for _, n := range append([]int{-1, 0, 1}, wide...) {
				if code := none.Add(s, n); code != api.ErrState {
					t.Fatalf("Add %d, %d: %d", s, n, code)
				}
			}
			if none.Of(s) != 0 || none.Below(s) != 0 || none.Which(s) != -1 {
				t.Fatalf("Of %d: %d, Below: %d, Which: %d", s, none.Of(s), none.Below(s), none.Which(s))
			}
		}
		if none.Len() != 0 {
			t.Fatalf("Len: %d", none.Len())
		}
	}
}

// 8.1: many Adds by turns, allowed ones and others, all told behind each.
func TestLongRun(t *testing.T) {
	c, met := newChance(), map[int]int{}
	p := newPair(t, 0, 98, 98, 256)
	sizes := []int{1, 2, 5, 40, 1000, 1 << 30, api.MaxLen}
	for range 6000 {
		s, size := c.below(api.Symbols+20)-10, sizes[c.below(len(sizes))]
		if c.below(2) == 0 {
			s = []int{0, 1, 98, 99, 256}[c.below(5)]
		}
		n := c.below(2*size+1) - size
		if c.below(20) == 0 {
			n = wide[c.below(len(wide))]
		}
		if c.below(8) == 0 && s >= 0 && s < api.Symbols {
			n = -p.of[s]
		}
		want := p.allowed(s, n)
		p.add(want, s, n)
		met[want]++
	}
	for _, code := range []int{api.OK, api.ErrArg, api.ErrRange} {
		if met[code] < 20 {
			t.Fatalf("too few of a kind: %v", met)
		}
	}
}

// 8.2: of a text's sorted suffixes, those that begin with a symbol stand from
// Below on, Of of them, and each begins with Which of its row.
func TestWhereRowsBegin(t *testing.T) {
	for _, text := range []string{"", "a", "aba", "banana", "mississippi", "\x00\xff\x00", "\xff\xff\x00\x00a", "abracadabra abracadabra"} {
		var suffixes [][]byte
		symbols := []int{0}
		for k := range len(text) + 1 {
			suffixes = append(suffixes, []byte(text[k:]))
		}
		for _, b := range []byte(text) {
			symbols = append(symbols, int(b)+1)
		}
		slices.SortFunc(suffixes, bytes.Compare)
		y, _ := tally.New(symbols...)
		for row, suffix := range suffixes {
			first := 0
			if len(suffix) > 0 {
				first = int(suffix[0]) + 1
			}
			if y.Which(row) != first || row < y.Below(first) || row >= y.Below(first)+y.Of(first) {
				t.Fatalf("%q: row %d begins with %d, not %d", text, row, first, y.Which(row))
			}
		}
	}
}

// The chapter's example.
func TestExample(t *testing.T) {
	y, code := tally.New(0)
	if code != api.OK || y.Which(0) != 0 {
		t.Fatal(code, y.Which(0))
	}
}
