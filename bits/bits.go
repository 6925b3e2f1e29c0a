// Package bits is within a word: see DOC.md, chapter 1.
package bits

import mathbits "math/bits"

const wordBits = 64

// Count is chapter 1's.
func Count(words ...uint64) int {
	n := 0
	for _, w := range words {
		n += mathbits.OnesCount64(w)
	}
	return n
}

// Rank is chapter 1's.
func Rank(w uint64, k int) int {
	return mathbits.OnesCount64(w & lowest(k))
}

// Select is chapter 1's.
func Select(w uint64, j int) int {
	if j < 0 || j >= mathbits.OnesCount64(w) {
		return -1
	}
	for range j {
		w &= w - 1
	}
	return mathbits.TrailingZeros64(w)
}

// Put is chapter 1's.
func Put(w uint64, k int, bit bool) (uint64, bool) {
	if !isPlace(k) {
		return w, false
	}
	below := lowest(k)
	return w&below | w&^below<<1 | word(bit)<<k, isOne(w, wordBits-1)
}

// Cut is chapter 1's.
func Cut(w uint64, k int, in bool) (uint64, bool) {
	if !isPlace(k) {
		return w, false
	}
	below := lowest(k)
	return w&below | w>>1&^below | word(in)<<(wordBits-1), isOne(w, k)
}

// lowest is the word whose first k bits are 1. A shift by all 64 leaves 0,
// and 0 less 1 is all 1s: so k of 64 needs no case of its own.
func lowest(k int) uint64 {
	return uint64(1)<<min(max(k, 0), wordBits) - 1
}

func isPlace(k int) bool {
	return k >= 0 && k < wordBits
}

func isOne(w uint64, k int) bool {
	return w>>k&1 == 1
}

func word(bit bool) uint64 {
	if bit {
		return 1
	}
	return 0
}
