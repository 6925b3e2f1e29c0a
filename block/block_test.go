package block_test

import (
	"math"
	"slices"
	"testing"

	"scrimshaw/api"
	"scrimshaw/block"
)

// sizes: of blocks, at the edges of the words and of the halves within.
var sizes = []int{0, 1, 2, 3, 4, 5, 31, 32, 33, 62, 63, 64, 65, 66, 95, 96, 97, 100, 126, 127, 128}

// far: numbers that are too low or too great for any block.
var far = []int{math.MinInt, math.MinInt + 1, math.MinInt + 63, math.MinInt + 64, math.MinInt32, -129, -128, -65, -64, -2, -1, 129, 130, 192, 256, 1 << 32, math.MaxInt32, math.MaxInt - 64, math.MaxInt}

// plains: some lists of n bits: all 0, all 1, by turns, and scattered by a fixed rule.
func plains(n int) [][]bool {
	l := make([][]bool, 5)
	x := uint64(0x9E3779B97F4A7C15) + uint64(n)
	for k := range n {
		x ^= x << 13
		x ^= x >> 7
		x ^= x << 17
		for i, bit := range []bool{false, true, k%2 == 0, (x>>40)%2 == 1, (x>>50)%5 == 0} {
			l[i] = append(l[i], bit)
		}
	}
	return l
}

// everyPlain: the lists of all sizes.
func everyPlain() [][]bool {
	var l [][]bool
	for _, n := range sizes {
		l = append(l, plains(n)...)
	}
	return l
}

func made(t *testing.T, l []bool) *block.Block {
	t.Helper()
	b, code := block.New(l...)
	if code != api.OK || b == nil {
		t.Fatalf("%d bits: code %d", len(l), code)
	}
	return b
}

func count(l []bool, like bool) int {
	n := 0
	for _, bit := range l {
		if bit == like {
			n++
		}
	}
	return n
}

// same holds all that b tells against the plain list.
func same(t *testing.T, b *block.Block, l []bool) {
	t.Helper()
	if b.Len() != len(l) || b.Ones() != count(l, true) || !slices.Equal(b.All(), l) {
		t.Fatalf("Len %d, Ones %d, All %v: not %v", b.Len(), b.Ones(), b.All(), l)
	}
	next := map[bool]int{}
	for k, want := range l {
		if bit, code := b.Get(k); bit != want || code != api.OK {
			t.Fatalf("Get %d of %v: %v, %d", k, l, bit, code)
		}
		if n := b.Rank(k); n != next[true] {
			t.Fatalf("Rank %d of %v: %d, not %d", k, l, n, next[true])
		}
		if at := b.Select(next[want], want); at != k {
			t.Fatalf("Select %d, %v of %v: %d, not %d", next[want], want, l, at, k)
		}
		next[want]++
	}
	for _, bit := range []bool{false, true} {
		if at := b.Select(next[bit], bit); at != -1 {
			t.Fatalf("Select %d, %v of %v: %d, where none is", next[bit], bit, l, at)
		}
	}
	if bit, code := b.Get(len(l)); bit || code != api.ErrRange {
		t.Fatalf("Get %d of as many: %v, %d", len(l), bit, code)
	}
}

// Promise 2.1.

func TestNewTellsItsBits(t *testing.T) {
	for _, l := range everyPlain() {
		same(t, made(t, l), l)
	}
}

func TestNewOfNone(t *testing.T) {
	var none []bool
	same(t, made(t, nil), nil)
	same(t, made(t, none), nil)
	same(t, made(t, []bool{}), nil)
}

func TestNewOfTooMany(t *testing.T) {
	for _, n := range []int{129, 130, 192, 256, 10000} {
		if b, code := block.New(make([]bool, n)...); b != nil || code != api.ErrFull {
			t.Fatalf("%d bits: %v, %d", n, b, code)
		}
	}
	made(t, make([]bool, 128))
}

func TestNewLeavesItsListAndKeepsNoneOfIt(t *testing.T) {
	for _, l := range everyPlain() {
		own := slices.Clone(l)
		b := made(t, own)
		if !slices.Equal(own, l) {
			t.Fatal("the list was changed")
		}
		for k := range own {
			own[k] = !own[k]
		}
		same(t, b, l)
	}
}

func TestGetOfNoSuchPlace(t *testing.T) {
	for _, n := range sizes {
		b := made(t, plains(n)[1])
		for _, k := range append([]int{n, n + 1}, far...) {
			if bit, code := b.Get(k); bit || code != api.ErrRange {
				t.Fatalf("at %d of %d: %v, %d", k, n, bit, code)
			}
		}
	}
}

func TestRankBeyondTheEnds(t *testing.T) {
	for _, l := range everyPlain() {
		b := made(t, l)
		for _, k := range append([]int{len(l), len(l) + 1, 128}, far...) {
			want := 0
			if k > 0 {
				want = count(l, true)
			}
			if n := b.Rank(k); n != want {
				t.Fatalf("at %d of %v: %d, not %d", k, l, n, want)
			}
		}
	}
}

func TestSelectOfNoSuchBit(t *testing.T) {
	for _, l := range everyPlain() {
		b := made(t, l)
		for _, bit := range []bool{false, true} {
			n := count(l, bit)
			for _, j := range append([]int{n, n + 1, n + 63, n + 64, 128}, far...) {
				if at := b.Select(j, bit); at != -1 {
					t.Fatalf("%v with %d ahead, of %d such: %d", bit, j, n, at)
				}
			}
		}
	}
}

func TestReadingChangesNothing(t *testing.T) {
	for _, l := range everyPlain() {
		b := made(t, l)
		for _, k := range append([]int{0, 1, 63, 64, 127, 128}, far...) {
			b.Get(k)
			b.Rank(k)
			b.Select(k, true)
			b.Select(k, false)
		}
		same(t, b, l)
	}
}

// Promise 2.2, Insert.

func TestInsertAtEachPlace(t *testing.T) {
	for _, l := range everyPlain() {
		if len(l) == 128 {
			continue
		}
		for k := 0; k <= len(l); k++ {
			bit := k%3 == 1
			b := made(t, l)
			if code := b.Insert(k, bit); code != api.OK {
				t.Fatalf("at %d of %d: %d", k, len(l), code)
			}
			same(t, b, slices.Insert(slices.Clone(l), k, bit))
		}
	}
}

func TestInsertAtNoPlace(t *testing.T) {
	for _, l := range everyPlain() {
		if len(l) == 128 {
			continue
		}
		b := made(t, l)
		for _, k := range append([]int{len(l) + 1, len(l) + 2}, far...) {
			if code := b.Insert(k, true); code != api.ErrRange {
				t.Fatalf("at %d of %d: %d", k, len(l), code)
			}
		}
		same(t, b, l)
	}
}

// Full is named ahead of no such place.
func TestInsertIntoAFullBlock(t *testing.T) {
	for _, l := range plains(128) {
		b := made(t, l)
		for _, k := range append([]int{0, 1, 63, 64, 127, 128}, far...) {
			for _, bit := range []bool{false, true} {
				if code := b.Insert(k, bit); code != api.ErrFull {
					t.Fatalf("at %d: %d", k, code)
				}
			}
		}
		same(t, b, l)
	}
}

func TestInsertFillsABlock(t *testing.T) {
	b, l := made(t, nil), []bool(nil)
	for i := range 128 {
		k, bit := i*i*29%(i+1), i%3 != 0
		if code := b.Insert(k, bit); code != api.OK {
			t.Fatalf("bit %d at %d: %d", i, k, code)
		}
		l = slices.Insert(l, k, bit)
		same(t, b, l)
	}
	if code := b.Insert(0, true); code != api.ErrFull {
		t.Fatal("one more than 128:", code)
	}
}

// Promise 2.2, Delete.

func TestDeleteAtEachPlace(t *testing.T) {
	for _, l := range everyPlain() {
		for k, want := range l {
			b := made(t, l)
			if bit, code := b.Delete(k); bit != want || code != api.OK {
				t.Fatalf("at %d of %v: %v, %d", k, l, bit, code)
			}
			same(t, b, slices.Delete(slices.Clone(l), k, k+1))
		}
	}
}

func TestDeleteAtNoPlace(t *testing.T) {
	for _, l := range everyPlain() {
		b := made(t, l)
		for _, k := range append([]int{len(l), len(l) + 1}, far...) {
			if bit, code := b.Delete(k); bit || code != api.ErrRange {
				t.Fatalf("at %d of %d: %v, %d", k, len(l), bit, code)
			}
		}
		same(t, b, l)
	}
}

func TestDeleteEmptiesABlock(t *testing.T) {
	l := plains(128)[3]
	b := made(t, l)
	for i := 127; i >= 0; i-- {
		k := i * i * 31 % (i + 1)
		if bit, code := b.Delete(k); bit != l[k] || code != api.OK {
			t.Fatalf("at %d of %d: %v, %d", k, len(l), bit, code)
		}
		l = slices.Delete(l, k, k+1)
		same(t, b, l)
	}
	if bit, code := b.Delete(0); bit || code != api.ErrRange {
		t.Fatal("one more than all:", bit, code)
	}
}

// Promise 2.2, Split.

func TestSplitOfThree(t *testing.T) {
	b := made(t, []bool{true, false, true})
	o := b.Split()
	same(t, b, []bool{true})
	same(t, o, []bool{false, true})
}

func TestSplitHalves(t *testing.T) {
	for _, l := range everyPlain() {
		b := made(t, l)
		o := b.Split()
		if o == nil || o == b {
			t.Fatalf("of %d bits no other block", len(l))
		}
		same(t, b, l[:len(l)/2])
		same(t, o, l[len(l)/2:])
	}
}

// What stays and what goes are blocks of their own: each can be filled, and the other doesn't see it.
func TestSplitPartsGoOnAlone(t *testing.T) {
	for _, l := range everyPlain() {
		b := made(t, l)
		o := b.Split()
		lower, upper := slices.Clone(l[:len(l)/2]), slices.Clone(l[len(l)/2:])
		for len(lower) < 128 {
			lower = append(lower, len(lower)%3 == 0)
			if code := b.Insert(b.Len(), lower[len(lower)-1]); code != api.OK {
				t.Fatal(code)
			}
		}
		same(t, o, upper)
		for len(upper) < 128 {
			upper = slices.Insert(upper, 0, len(upper)%5 == 0)
			if code := o.Insert(0, upper[0]); code != api.OK {
				t.Fatal(code)
			}
		}
		same(t, o, upper)
		same(t, b, lower)
	}
}

// Promise 2.2, Join.

func TestJoinLaysBehind(t *testing.T) {
	for _, n := range sizes {
		for _, m := range append([]int{128 - n}, sizes...) {
			if n+m > 128 {
				continue
			}
			for i, l := range plains(n) {
				behind := plains(m)[(i+3)%5]
				b, o := made(t, l), made(t, behind)
				if code := b.Join(o); code != api.OK {
					t.Fatalf("%d bits behind %d: %d", m, n, code)
				}
				same(t, b, slices.Concat(l, behind))
				same(t, o, nil)
			}
		}
	}
}

func TestJoinOfTooMany(t *testing.T) {
	for _, n := range sizes {
		for _, m := range append([]int{129 - n}, sizes...) {
			if n+m <= 128 || m > 128 {
				continue
			}
			l, behind := plains(n)[3], plains(m)[4]
			b, o := made(t, l), made(t, behind)
			if code := b.Join(o); code != api.ErrFull {
				t.Fatalf("%d bits behind %d: %d", m, n, code)
			}
			same(t, b, l)
			same(t, o, behind)
		}
	}
}

func TestJoinOfNil(t *testing.T) {
	for _, l := range everyPlain() {
		b := made(t, l)
		if code := b.Join(nil); code != api.ErrArg {
			t.Fatalf("nil behind %d bits: %d", len(l), code)
		}
		same(t, b, l)
	}
}

// Too many is named ahead of itself.
func TestJoinOfItself(t *testing.T) {
	for _, l := range everyPlain() {
		b, want := made(t, l), api.ErrArg
		if 2*len(l) > 128 {
			want = api.ErrFull
		}
		if code := b.Join(b); code != want {
			t.Fatalf("%d bits behind themselves: %d, not %d", len(l), code, want)
		}
		same(t, b, l)
	}
}

func TestJoinedPartsGoOnAlone(t *testing.T) {
	l, behind := plains(40)[3], plains(30)[4]
	b, o := made(t, l), made(t, behind)
	b.Join(o)
	for k := range 128 {
		o.Insert(k, true)
	}
	same(t, b, slices.Concat(l, behind))
	for range 70 {
		b.Delete(0)
	}
	same(t, b, nil)
	same(t, o, slices.Repeat([]bool{true}, 128))
}

func TestJoinUndoesSplit(t *testing.T) {
	for _, l := range everyPlain() {
		b := made(t, l)
		o := b.Split()
		if code := b.Join(o); code != api.OK {
			t.Fatalf("%d bits: %d", len(l), code)
		}
		same(t, b, l)
		same(t, o, nil)
	}
}

// Promise 2.2, All.

func TestAllIsTheCallersOwn(t *testing.T) {
	for _, l := range everyPlain() {
		b := made(t, l)
		told := b.All()
		for k := range told {
			told[k] = !told[k]
		}
		same(t, b, l)
		told = b.All()
		for range l {
			b.Delete(0)
		}
		if !slices.Equal(told, l) {
			t.Fatal("what was told has changed with the block")
		}
	}
}

// Promise 2.2, of nil.

func TestOfNilReading(t *testing.T) {
	var b *block.Block
	if b.Len() != 0 || b.Ones() != 0 || len(b.All()) != 0 || b.Split() != nil {
		t.Fatal("nil has bits")
	}
	for _, k := range append([]int{0, 1, 64, 128}, far...) {
		if bit, code := b.Get(k); bit || code != api.ErrState {
			t.Fatalf("Get %d: %v, %d", k, bit, code)
		}
		if n := b.Rank(k); n != 0 {
			t.Fatalf("Rank %d: %d", k, n)
		}
		if at := [2]int{b.Select(k, false), b.Select(k, true)}; at != [2]int{-1, -1} {
			t.Fatalf("Select %d: %v", k, at)
		}
	}
}

func TestOfNilChanging(t *testing.T) {
	var b *block.Block
	for _, k := range append([]int{0, 1, 64, 128}, far...) {
		if code := b.Insert(k, true); code != api.ErrState {
			t.Fatalf("Insert at %d: %d", k, code)
		}
		if bit, code := b.Delete(k); bit || code != api.ErrState {
			t.Fatalf("Delete at %d: %v, %d", k, bit, code)
		}
	}
	for _, l := range everyPlain() {
		o := made(t, l)
		if code := b.Join(o); code != api.ErrState {
			t.Fatalf("Join of %d bits: %d", len(l), code)
		}
		same(t, o, l)
	}
	if code := b.Join(nil); code != api.ErrState {
		t.Fatal("Join of nil:", code)
	}
}

// A block that nobody made is one without bits.
func TestZeroBlockIsEmpty(t *testing.T) {
	var b block.Block
	same(t, &b, nil)
	if code := b.Insert(0, true); code != api.OK {
		t.Fatal(code)
	}
	same(t, &b, []bool{true})
}

// Promise 2.3: as a leaf, a block is split when it is full and joined with
// its neighbour when both are small, between bits that come and go.
func TestALeafAmongLeaves(t *testing.T) {
	leaves, plain := []*block.Block{made(t, nil)}, []bool(nil)
	x := uint64(0x2545F4914F6CDD1D)
	for i := range 6000 {
		x ^= x << 13
		x ^= x >> 7
		x ^= x << 17
		if grows := i%3000 < 1800; grows || len(plain) == 0 {
			k, bit := int((x>>8)%uint64(len(plain)+1)), (x>>3)%2 == 1
			leaves = insertAmong(t, leaves, k, bit)
			plain = slices.Insert(plain, k, bit)
		} else {
			k := int((x >> 8) % uint64(len(plain)))
			leaves = deleteAmong(t, leaves, k, plain[k])
			plain = slices.Delete(plain, k, k+1)
		}
		if i%50 == 0 {
			sameAmong(t, leaves, plain)
		}
	}
	sameAmong(t, leaves, plain)
}

func leafOf(leaves []*block.Block, k int) (int, int) {
	i := 0
	for i < len(leaves)-1 && k > leaves[i].Len() {
		k -= leaves[i].Len()
		i++
	}
	return i, k
}

func insertAmong(t *testing.T, leaves []*block.Block, k int, bit bool) []*block.Block {
	t.Helper()
	i, at := leafOf(leaves, k)
	code := leaves[i].Insert(at, bit)
	if code == api.ErrFull {
		leaves = slices.Insert(leaves, i+1, leaves[i].Split())
		i, at = leafOf(leaves, k)
		code = leaves[i].Insert(at, bit)
	}
	if code != api.OK {
		t.Fatalf("Insert at %d: %d", k, code)
	}
	return leaves
}

func deleteAmong(t *testing.T, leaves []*block.Block, k int, want bool) []*block.Block {
	t.Helper()
	i, at := leafOf(leaves, k+1)
	if bit, code := leaves[i].Delete(at - 1); bit != want || code != api.OK {
		t.Fatalf("Delete at %d: %v, %d", k, bit, code)
	}
	if i+1 < len(leaves) && leaves[i].Len() < 40 {
		if leaves[i].Join(leaves[i+1]) == api.OK {
			leaves = slices.Delete(leaves, i+1, i+2)
		}
	}
	return leaves
}

func sameAmong(t *testing.T, leaves []*block.Block, plain []bool) {
	t.Helper()
	for _, b := range leaves {
		if b.Len() > len(plain) {
			t.Fatalf("a leaf has %d bits, where %d are left", b.Len(), len(plain))
		}
		same(t, b, plain[:b.Len()])
		plain = plain[b.Len():]
	}
	if len(plain) != 0 {
		t.Fatalf("%d bits are in no leaf", len(plain))
	}
}
