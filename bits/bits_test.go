package bits_test

import (
	"math"
	"slices"
	"testing"

	"scrimshaw/bits"
)

// samples: words at the edges, and some that a fixed rule scatters.
func samples() []uint64 {
	l := []uint64{0, 1, 2, 5, 1 << 63, 1<<63 | 1, 1<<62 | 1<<31, math.MaxUint64, math.MaxUint64 - 1, math.MaxUint64 >> 1, 0xAAAAAAAAAAAAAAAA, 0x5555555555555555, 0xFFFFFFFF, 0xFFFFFFFF00000000}
	x := uint64(0x9E3779B97F4A7C15)
	for range 40 {
		x ^= x << 13
		x ^= x >> 7
		x ^= x << 17
		l = append(l, x, x&(x>>3)&(x>>11))
	}
	return l
}

// noPlaces: k that are not from 0 to 63.
var noPlaces = []int{math.MinInt, math.MinInt32, -65, -64, -63, -2, -1, 64, 65, 127, 128, 1 << 32, math.MaxInt32, math.MaxInt}

// spread is w bit by bit, the lowest first.
func spread(w uint64) []bool {
	l := make([]bool, 64)
	for i := range l {
		l[i] = w>>i%2 == 1
	}
	return l
}

func gather(l []bool) uint64 {
	w := uint64(0)
	for i, bit := range l {
		if bit {
			w += 1 << i
		}
	}
	return w
}

func ones(l []bool) int {
	n := 0
	for _, bit := range l {
		if bit {
			n++
		}
	}
	return n
}

// Promise 1.1, Count.

func TestCountOfNone(t *testing.T) {
	var none []uint64
	if bits.Count() != 0 || bits.Count(none...) != 0 || bits.Count([]uint64{}...) != 0 {
		t.Fatal("no words have no 1s")
	}
}

func TestCountIsOfAllTogether(t *testing.T) {
	if n := bits.Count(7, 1); n != 4 {
		t.Fatal("of 7 and 1:", n)
	}
	l, want := samples(), 0
	for i, w := range l {
		if n := bits.Count(w); n != ones(spread(w)) {
			t.Fatalf("of %x: %d", w, n)
		}
		want += ones(spread(w))
		if n := bits.Count(l[:i+1]...); n != want {
			t.Fatalf("of the first %d: %d, not %d", i+1, n, want)
		}
	}
}

func TestCountLeavesItsListAlone(t *testing.T) {
	l := samples()
	bits.Count(l...)
	if !slices.Equal(l, samples()) {
		t.Fatal("the list was changed")
	}
}

// Promise 1.1, Rank.

func TestRankCountsTheFirst(t *testing.T) {
	for _, w := range samples() {
		for k := 0; k <= 64; k++ {
			if n := bits.Rank(w, k); n != ones(spread(w)[:k]) {
				t.Fatalf("of %x at %d: %d", w, k, n)
			}
		}
	}
}

func TestRankBeyondTheEnds(t *testing.T) {
	for _, w := range samples() {
		for _, k := range noPlaces {
			want := 0
			if k >= 64 {
				want = ones(spread(w))
			}
			if n := bits.Rank(w, k); n != want {
				t.Fatalf("of %x at %d: %d, not %d", w, k, n, want)
			}
		}
	}
}

// Promise 1.1, Select.

func TestSelectFindsEachOne(t *testing.T) {
	for _, w := range samples() {
		j := 0
		for k, bit := range spread(w) {
			if !bit {
				continue
			}
			if at := bits.Select(w, j); at != k {
				t.Fatalf("of %x the 1 with %d ahead: %d, not %d", w, j, at, k)
			}
			j++
		}
	}
}

func TestSelectOfNone(t *testing.T) {
	for _, w := range samples() {
		n := ones(spread(w))
		for _, j := range []int{math.MinInt, -64, -1, n, n + 1, n + 64, 64, 65, 1 << 32, math.MaxInt} {
			if at := bits.Select(w, j); at != -1 {
				t.Fatalf("of %x with %d 1s, the 1 with %d ahead: %d", w, n, j, at)
			}
		}
	}
}

// Promise 1.2, Put.

func TestPutMovesUp(t *testing.T) {
	for _, w := range samples() {
		for k := range 64 {
			for _, bit := range []bool{false, true} {
				l := slices.Insert(spread(w), k, bit)
				got, out := bits.Put(w, k, bit)
				if got != gather(l[:64]) || out != l[64] {
					t.Fatalf("%v into %x at %d: %x, %v", bit, w, k, got, out)
				}
			}
		}
	}
}

func TestPutTellsTheHighest(t *testing.T) {
	for _, k := range []int{0, 1, 31, 62, 63} {
		if _, out := bits.Put(1<<63, k, false); !out {
			t.Fatal("a 1 fell out untold, at", k)
		}
		if _, out := bits.Put(math.MaxUint64>>1, k, true); out {
			t.Fatal("a 0 was told as 1, at", k)
		}
	}
}

func TestPutAtNoPlace(t *testing.T) {
	for _, w := range samples() {
		for _, k := range noPlaces {
			for _, bit := range []bool{false, true} {
				if got, out := bits.Put(w, k, bit); got != w || out {
					t.Fatalf("%v into %x at %d: %x, %v", bit, w, k, got, out)
				}
			}
		}
	}
}

// Promise 1.2, Cut.

func TestCutMovesDown(t *testing.T) {
	for _, w := range samples() {
		for k := range 64 {
			for _, in := range []bool{false, true} {
				l := spread(w)
				want := l[k]
				l = append(slices.Delete(l, k, k+1), in)
				if got, gone := bits.Cut(w, k, in); got != gather(l) || gone != want {
					t.Fatalf("%v behind %x, cut at %d: %x, %v", in, w, k, got, gone)
				}
			}
		}
	}
}

func TestCutTakesInTheHighest(t *testing.T) {
	for k := range 64 {
		if got, _ := bits.Cut(math.MaxUint64, k, false); got != math.MaxUint64>>1 {
			t.Fatalf("a 0 came in at %d: %x", k, got)
		}
		if got, _ := bits.Cut(0, k, true); got != 1<<63 {
			t.Fatalf("a 1 came in at %d: %x", k, got)
		}
	}
}

func TestCutAtNoPlace(t *testing.T) {
	for _, w := range samples() {
		for _, k := range noPlaces {
			for _, in := range []bool{false, true} {
				if got, gone := bits.Cut(w, k, in); got != w || gone {
					t.Fatalf("%v behind %x, cut at %d: %x, %v", in, w, k, got, gone)
				}
			}
		}
	}
}

// Promise 1.3.

func TestCutUndoesPut(t *testing.T) {
	for _, w := range samples() {
		for k := range 64 {
			for _, bit := range []bool{false, true} {
				put, out := bits.Put(w, k, bit)
				if got, gone := bits.Cut(put, k, out); got != w || gone != bit {
					t.Fatalf("%v into %x at %d, and cut: %x, %v", bit, w, k, got, gone)
				}
			}
		}
	}
}

// putInRow and cutInRow carry a bit from word to word, as the layers above do.

func putInRow(row []uint64, k int, bit bool) bool {
	i := k / 64
	row[i], bit = bits.Put(row[i], k%64, bit)
	for i++; i < len(row); i++ {
		row[i], bit = bits.Put(row[i], 0, bit)
	}
	return bit
}

func cutInRow(row []uint64, k int, bit bool) bool {
	for i := len(row) - 1; i > k/64; i-- {
		row[i], bit = bits.Cut(row[i], 0, bit)
	}
	row[k/64], bit = bits.Cut(row[k/64], k%64, bit)
	return bit
}

func TestBitsMoveThroughARow(t *testing.T) {
	row, plain := make([]uint64, 3), make([]bool, 192)
	for i := range 2000 {
		k, bit := i*i*37%192, i*11%7 < 3
		var got, want bool
		if i%5 < 3 {
			got = putInRow(row, k, bit)
			plain = slices.Insert(plain, k, bit)
			want, plain = plain[192], plain[:192]
		} else {
			got, want = cutInRow(row, k, bit), plain[k]
			plain = append(slices.Delete(plain, k, k+1), bit)
		}
		if got != want || bits.Count(row...) != ones(plain) {
			t.Fatal("step", i, "told", got)
		}
		for j, w := range row {
			if w != gather(plain[j*64:j*64+64]) {
				t.Fatalf("step %d, word %d: %x", i, j, w)
			}
		}
	}
}
