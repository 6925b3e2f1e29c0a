package sym_test

import (
	"bytes"
	"cmp"
	"math"
	"slices"
	"testing"

	"scrimshaw/api"
	"scrimshaw/sym"
)

// noSymbol are numbers below the first symbol and above the last.
var noSymbol = []int{
	math.MinInt, math.MinInt + 1, math.MinInt32, -1 << 40, -api.MaxLen, -512, -257, -256, -2, -1,
	257, 258, 511, 512, 513, 1 << 16, math.MaxInt32, api.MaxLen, 1 << 32, 1<<32 + 1, 1 << 40, 1 << 62, math.MaxInt - 1, math.MaxInt,
}

// noLevel are numbers that are neither a level nor the one below the last.
var noLevel = []int{
	math.MinInt, math.MinInt + 1, math.MinInt32, -1 << 40, -api.MaxLen, -64, -56, -55, -10, -9, -8, -2, -1,
	10, 11, 18, 55, 56, 63, 64, 65, 73, 1 << 16, math.MaxInt32, api.MaxLen, 1 << 32, 1<<32 + 1, 1 << 62, math.MaxInt - 1, math.MaxInt,
}

// digits are the nine bits of a symbol as characters, the highest first: found
// by taking off powers of two, not by shifts.
func digits(s int) string {
	text := ""
	for _, worth := range []int{256, 128, 64, 32, 16, 8, 4, 2, 1} {
		if s >= worth {
			text, s = text+"1", s-worth
		} else {
			text += "0"
		}
	}
	return text
}

// worth is the number that the digits make.
func worth(digits string) int {
	n := 0
	for _, d := range digits {
		n = 2*n + int(d-'0')
	}
	return n
}

// 6.1: Of of every byte.
func TestOf(t *testing.T) {
	for b := range 256 {
		if s := sym.Of(byte(b)); s != b+1 {
			t.Errorf("Of(%d): %d", b, s)
		}
	}
	if sym.Of(0) != 1 || sym.Of('a') != 98 || sym.Of(255) != 256 {
		t.Error("Of(0), Of('a') or Of(255) is not 1, 98, 256")
	}
}

// 6.1: Byte of every symbol but the end.
func TestByte(t *testing.T) {
	for s := 1; s < api.Symbols; s++ {
		if b, ok := sym.Byte(s); !ok || int(b) != s-1 {
			t.Errorf("Byte(%d): %d, %v", s, b, ok)
		}
	}
}

// 6.1: the end is no byte.
func TestByteOfTheEnd(t *testing.T) {
	if b, ok := sym.Byte(0); ok || b != 0 {
		t.Errorf("Byte(0): %d, %v", b, ok)
	}
}

// 6.1: what is no symbol is no byte.
func TestByteOfNone(t *testing.T) {
	for _, s := range noSymbol {
		if b, ok := sym.Byte(s); ok || b != 0 {
			t.Errorf("Byte(%d): %d, %v", s, b, ok)
		}
	}
}

// 6.1: Byte goes back where Of came from.
func TestOfAndBack(t *testing.T) {
	for b := range 256 {
		if back, ok := sym.Byte(sym.Of(byte(b))); !ok || int(back) != b {
			t.Errorf("Byte(Of(%d)): %d, %v", b, back, ok)
		}
	}
	for s := 1; s < api.Symbols; s++ {
		if b, _ := sym.Byte(s); sym.Of(b) != s {
			t.Errorf("Of(Byte(%d)): %d", s, sym.Of(b))
		}
	}
}

// 6.1: All of no parts, of one, of several, of nil and empty ones among them.
func TestAll(t *testing.T) {
	every, symbols := make([]byte, 256), make([]int, 257)
	for b := range 256 {
		every[b], symbols[b] = byte(b), b+1
	}
	for _, c := range []struct {
		parts [][]byte
		want  []int
	}{
		{nil, []int{0}},
		{[][]byte{}, []int{0}},
		{[][]byte{nil}, []int{0}},
		{[][]byte{{}}, []int{0}},
		{[][]byte{nil, {}, nil}, []int{0}},
		{[][]byte{{0}}, []int{1, 0}},
		{[][]byte{{255}}, []int{256, 0}},
		{[][]byte{{0, 0}, {0}}, []int{1, 1, 1, 0}},
		{[][]byte{[]byte("aba")}, []int{98, 99, 98, 0}},
		{[][]byte{[]byte("ab"), []byte("a")}, []int{98, 99, 98, 0}},
		{[][]byte{[]byte("a"), []byte("ba")}, []int{98, 99, 98, 0}},
		{[][]byte{nil, []byte("ab"), {}, []byte("a"), nil}, []int{98, 99, 98, 0}},
		{[][]byte{{}, {255, 0}, nil, {1}}, []int{256, 1, 2, 0}},
		{[][]byte{every}, symbols},
	} {
		if got := sym.All(c.parts...); !slices.Equal(got, c.want) {
			t.Errorf("All of %v: %v, not %v", c.parts, got, c.want)
		}
	}
}

// 6.1: a long text in parts of many lengths is as the text in one.
func TestAllOfManyParts(t *testing.T) {
	text := make([]byte, 100000)
	want := make([]int, len(text)+1)
	chance := uint32(2463534242)
	for k := range text {
		chance ^= chance << 13
		chance ^= chance >> 17
		chance ^= chance << 5
		text[k] = byte(chance >> 11)
		want[k] = int(text[k]) + 1
	}
	if !slices.Equal(sym.All(text), want) {
		t.Error("All of the text in one is not its symbols")
	}
	var parts [][]byte
	for rest, n := text, 0; len(rest) > 0; n++ {
		size := min(n*n%701, len(rest))
		parts, rest = append(parts, rest[:size]), rest[size:]
	}
	if !slices.Equal(sym.All(parts...), want) {
		t.Errorf("All of the text in %d parts is not its symbols", len(parts))
	}
}

// 6.1: the same part may stand in several places.
func TestAllOfOnePartTwice(t *testing.T) {
	part := []byte("xy")
	if got := sym.All(part, part, part[1:]); !slices.Equal(got, []int{121, 122, 121, 122, 122, 0}) {
		t.Errorf("All of xy, xy and y: %v", got)
	}
}

// 6.1, rule 2: what was answered stays, and the parts stay as they are.
func TestAllKeepsNothing(t *testing.T) {
	room := []byte("banana and more")
	parts := [][]byte{room[:3], nil, room[3:6]}
	got := sym.All(parts...)
	if !bytes.Equal(room, []byte("banana and more")) {
		t.Errorf("All changed a part's room to %q", room)
	}
	if len(parts) != 3 || !bytes.Equal(parts[0], room[:3]) || parts[1] != nil || !bytes.Equal(parts[2], room[3:6]) {
		t.Errorf("All changed the list of parts to %q", parts)
	}
	for k := range room {
		room[k] = 'z'
	}
	parts[0], parts[2] = nil, nil
	want := []int{99, 98, 111, 98, 111, 98, 0}
	if !slices.Equal(got, want) {
		t.Errorf("behind a change of its parts, what All answered is %v", got)
	}
}

// 6.1, rule 2: what is answered is the caller's own.
func TestAllAnswersNewMemory(t *testing.T) {
	for _, parts := range [][][]byte{nil, {[]byte("ab")}} {
		first := sym.All(parts...)
		want := slices.Clone(first)
		for k := range first {
			first[k] = -7
		}
		if _ = append(first, 9); !slices.Equal(sym.All(parts...), want) {
			t.Errorf("All of %q hangs on what was done to an earlier answer", parts)
		}
	}
}

// 6.2: Bit of every symbol at every level.
func TestBit(t *testing.T) {
	for s := range api.Symbols {
		nine := digits(s)
		for level := range api.Levels {
			if sym.Bit(s, level) != (nine[level] == '1') {
				t.Errorf("Bit(%d, %d) of %s: %v", s, level, nine, sym.Bit(s, level))
			}
		}
	}
}

// 6.2: the highest bit comes first, and is the last symbol's alone.
func TestBitHighestFirst(t *testing.T) {
	for s := range api.Symbols {
		if sym.Bit(s, 0) != (s == 256) {
			t.Errorf("Bit(%d, 0): %v", s, sym.Bit(s, 0))
		}
		if sym.Bit(s, 8) != (s%2 == 1) {
			t.Errorf("Bit(%d, 8): %v", s, sym.Bit(s, 8))
		}
	}
}

// 6.2: there is no bit at a level below 0 or above 8.
func TestBitOfNoLevel(t *testing.T) {
	for s := range api.Symbols {
		for _, level := range append([]int{9}, noLevel...) {
			if sym.Bit(s, level) {
				t.Errorf("Bit(%d, %d): true", s, level)
			}
		}
	}
}

// 6.2: what is no symbol has no bits.
func TestBitOfNoSymbol(t *testing.T) {
	for _, s := range noSymbol {
		for _, level := range append([]int{0, 1, 2, 3, 4, 5, 6, 7, 8, 9}, noLevel...) {
			if sym.Bit(s, level) {
				t.Errorf("Bit(%d, %d): true", s, level)
			}
		}
	}
}

// 6.2: Path of every symbol at every level, the number of its first bits.
func TestPath(t *testing.T) {
	for s := range api.Symbols {
		nine := digits(s)
		for level := range api.Levels + 1 {
			if p := sym.Path(s, level); p != worth(nine[:level]) {
				t.Errorf("Path(%d, %d) of %s: %d", s, level, nine, p)
			}
		}
	}
	if p := sym.Path(256, 1); p != 1 {
		t.Errorf("Path(256, 1): %d", p)
	}
}

// 6.2: of level 0 it is 0, of level 9 the symbol itself.
func TestPathFirstAndLast(t *testing.T) {
	for s := range api.Symbols {
		if p := sym.Path(s, 0); p != 0 {
			t.Errorf("Path(%d, 0): %d", s, p)
		}
		if p := sym.Path(s, 9); p != s {
			t.Errorf("Path(%d, 9): %d", s, p)
		}
	}
}

// 6.2: each Path comes out of the one above it and the Bit between.
func TestPathGrowsByBits(t *testing.T) {
	for s := range api.Symbols {
		for level := range api.Levels {
			want := 2 * sym.Path(s, level)
			if sym.Bit(s, level) {
				want++
			}
			if p := sym.Path(s, level+1); p != want {
				t.Errorf("Path(%d, %d): %d, not %d", s, level+1, p, want)
			}
		}
	}
}

// 6.2: there is no path at a level below 0 or above 9.
func TestPathOfNoLevel(t *testing.T) {
	for s := range api.Symbols {
		for _, level := range noLevel {
			if p := sym.Path(s, level); p != -1 {
				t.Errorf("Path(%d, %d): %d", s, level, p)
			}
		}
	}
}

// 6.2: what is no symbol has no path, of level 0 either.
func TestPathOfNoSymbol(t *testing.T) {
	for _, s := range noSymbol {
		for _, level := range append([]int{0, 1, 2, 3, 4, 5, 6, 7, 8, 9}, noLevel...) {
			if p := sym.Path(s, level); p != -1 {
				t.Errorf("Path(%d, %d): %d", s, level, p)
			}
		}
	}
}

// 6.3: the end is below the symbols of all bytes.
func TestEndIsBelowAllBytes(t *testing.T) {
	symbols := sym.All(nil)
	end := symbols[len(symbols)-1]
	for b := range 256 {
		if s := sym.Of(byte(b)); s <= end {
			t.Errorf("Of(%d) is %d, and the end %d", b, s, end)
		}
	}
}

// 6.3: symbols are in the order of their bytes.
func TestSymbolsInTheOrderOfBytes(t *testing.T) {
	for b := range 256 {
		for c := range 256 {
			if cmp.Compare(sym.Of(byte(b)), sym.Of(byte(c))) != cmp.Compare(b, c) {
				t.Errorf("Of(%d) to Of(%d) is not as byte to byte", b, c)
			}
		}
	}
}

// 6.3: a text that begins another is below it, by its end: whatever byte comes next.
func TestEndPutsTheShorterFirst(t *testing.T) {
	texts := []string{"", "\x00", "\x00\x00", "\x00\xff", "a", "a\x00", "ab", "aba", "abab", "b", "banana", "\xff", "\xff\x00", "\xff\xff"}
	for _, one := range texts {
		for _, other := range texts {
			want := cmp.Compare(one, other)
			if got := slices.Compare(sym.All([]byte(one)), sym.All([]byte(other))); got != want {
				t.Errorf("All of %q to All of %q: %d, not %d", one, other, got, want)
			}
		}
	}
}
