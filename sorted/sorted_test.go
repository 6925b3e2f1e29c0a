package sorted_test

import (
	"bytes"
	"fmt"
	"math"
	"slices"
	"testing"

	"scrimshaw/api"
	"scrimshaw/sorted"
	"scrimshaw/sym"
)

// noSymbol are numbers below the first symbol and above the last.
var noSymbol = []int{
	math.MinInt, math.MinInt + 1, math.MinInt32, -1 << 40, -api.MaxLen, -258, -257, -256, -98, -2, -1,
	257, 258, 511, 512, 513, 1 << 16, math.MaxInt32, api.MaxLen, 1 << 32, 1<<32 + 1, 1<<32 + 98, 1 << 40, math.MaxInt - 1, math.MaxInt,
}

// chance tells numbers of no order, the same ones in each run.
type chance uint64

func (c *chance) below(n int) int {
	*c ^= *c << 13
	*c ^= *c >> 7
	*c ^= *c << 17
	return int(*c>>16) % n
}

func newChance() *chance {
	c := chance(88172645463325252)
	return &c
}

func (c *chance) text(n int, letters []byte) []byte {
	t := make([]byte, n)
	for k := range t {
		t[k] = letters[c.below(len(letters))]
	}
	return t
}

func rising() []byte {
	t := make([]byte, 256)
	for b := range t {
		t[b] = byte(b)
	}
	return t
}

func falling() []byte {
	t := rising()
	slices.Reverse(t)
	return t
}

// word is the beginning of Fibonacci's word, which repeats itself at every size.
func word(n int) []byte {
	one, other := []byte("b"), []byte("a")
	for len(other) < n {
		one, other = other, append(slices.Clone(other), one...)
	}
	return other[:n]
}

// smallTexts are all texts of up to most bytes, of these letters.
func smallTexts(most int, letters []byte) [][]byte {
	texts := [][]byte{{}}
	for first := 0; len(texts[len(texts)-1]) < most; {
		last := len(texts)
		for _, t := range texts[first:last] {
			for _, b := range letters {
				texts = append(texts, append(slices.Clone(t), b))
			}
		}
		first = last
	}
	return texts
}

// someTexts are texts of every kind, of some hundred bytes at most.
func someTexts() [][]byte {
	texts := [][]byte{nil, {}}
	for b := range 256 {
		texts = append(texts, []byte{byte(b)})
	}
	for n := 2; n <= 70; n++ {
		for _, b := range []byte{0, 'a', 255} {
			texts = append(texts, bytes.Repeat([]byte{b}, n))
		}
		texts = append(texts, word(n), bytes.Repeat([]byte("ab"), n)[:n], bytes.Repeat([]byte("aab"), n)[:n])
	}
	for _, s := range []string{
		"aba", "banana", "mississippi", "abracadabra", "abracadabra abracadabra",
		"\x00\xff", "\xff\x00", "\x00\x00\xff", "\x00\xff\x00", "\xff\x00\xff", "\xff\xff\x00", "\x00\xff\xff\x00", "\xff\x00\x00\xff",
		"\x00\x01\xfe\xff", "\xff\xfe\x01\x00", "\x7f\x80\x7f\x80\x80\x7f", "a\x00a\x00a", "a\xffa\xffa",
	} {
		texts = append(texts, []byte(s))
	}
	texts = append(texts, rising(), falling(), append(rising(), falling()...), append(falling(), rising()...), append(rising(), rising()...))
	c := newChance()
	for _, letters := range [][]byte{[]byte("ab"), {0, 255}, {0, 1, 2}, []byte("abcdefgh"), rising()} {
		for n := 3; n < 300; n += 37 {
			texts = append(texts, c.text(n, letters))
		}
	}
	return append(texts, smallTexts(5, []byte{0, 'a', 255})...)
}

// longTexts are texts of thousands of bytes.
func longTexts() [][]byte {
	c := newChance()
	piece := c.text(97, rising())
	return [][]byte{
		bytes.Repeat([]byte("a"), 5000),
		bytes.Repeat([]byte{0}, 4096),
		bytes.Repeat([]byte{255}, 4097),
		append(bytes.Repeat([]byte("a"), 4095), 'b'),
		append([]byte("b"), bytes.Repeat([]byte("a"), 4095)...),
		bytes.Repeat([]byte("ab"), 3000),
		bytes.Repeat([]byte{0, 255}, 3000),
		bytes.Repeat([]byte("banana"), 1000),
		bytes.Repeat(piece, 60),
		append(bytes.Repeat(piece, 30), piece[:40]...),
		bytes.Repeat(rising(), 20),
		bytes.Repeat(falling(), 20),
		word(10000),
		c.text(8000, rising()),
		c.text(8000, []byte("ab")),
		c.text(8000, []byte{0, 255}),
		c.text(8000, []byte("acgt")),
	}
}

// plainSymbols is what sym.All answers, from the words of its chapter.
func plainSymbols(t []byte) []int {
	var symbols []int
	for _, b := range t {
		symbols = append(symbols, int(b)+1)
	}
	return append(symbols, 0)
}

// plainRows sorts the suffixes one against the other.
func plainRows(t []byte) []int {
	symbols := plainSymbols(t)
	rows := make([]int, len(symbols))
	for k := range rows {
		rows[k] = k
	}
	slices.SortFunc(rows, func(a, b int) int { return slices.Compare(symbols[a:], symbols[b:]) })
	return rows
}

// plainLast sorts the rotations themselves, and takes their last column.
func plainLast(t []byte) []int {
	symbols := plainSymbols(t)
	var rotations [][]int
	for k := range symbols {
		rotations = append(rotations, append(slices.Clone(symbols[k:]), symbols[:k]...))
	}
	slices.SortFunc(rotations, slices.Compare[[]int])
	last := make([]int, len(rotations))
	for row, rotation := range rotations {
		last[row] = rotation[len(rotation)-1]
	}
	return last
}

// plainBack puts the column ahead of the rows and sorts them, as often as
// there are columns: if l is a text's, they are its rotations.
func plainBack(l []int) ([]byte, bool) {
	rows := make([][]int, len(l))
	for range l {
		for k, row := range rows {
			rows[k] = append([]int{l[k]}, row...)
		}
		slices.SortFunc(rows, slices.Compare[[]int])
	}
	for _, row := range rows {
		if row[len(row)-1] != 0 {
			continue
		}
		var t []byte
		for _, s := range row[:len(row)-1] {
			if s < 1 || s > 256 {
				return nil, false
			}
			t = append(t, byte(s-1))
		}
		return t, slices.Equal(plainLast(t), l)
	}
	return nil, false
}

// brief keeps what a test tells short.
func brief[S ~[]E, E any](s S) string {
	if len(s) <= 24 {
		return fmt.Sprint(s)
	}
	return fmt.Sprint(len(s), " of ", s[:24], "..")
}

// sortedRows holds rows to being those of the text, without sorting: each place
// once, the end's first, and each suffix below the next by its first symbol,
// or by the row of the suffix behind it.
func sortedRows(t *testing.T, text []byte, rows []int) {
	t.Helper()
	symbols := plainSymbols(text)
	if len(rows) != len(symbols) || rows[0] != len(text) {
		t.Fatalf("Rows of %s: %s", brief(text), brief(rows))
	}
	row := make([]int, len(rows))
	for k := range row {
		row[k] = -1
	}
	for k, place := range rows {
		if place < 0 || place > len(text) || row[place] >= 0 {
			t.Fatalf("Rows of %s: place %d is none, or there twice", brief(text), place)
		}
		row[place] = k
	}
	for k := range rows[1:] {
		a, b := rows[k], rows[k+1]
		if symbols[a] > symbols[b] || symbols[a] == symbols[b] && row[a+1] >= row[b+1] {
			t.Fatalf("Rows of %s: row %d, of place %d, is not below the next, of place %d", brief(text), k, a, b)
		}
	}
}

// 9.1: Rows of texts of every kind, against suffixes that are sorted plainly.
func TestRows(t *testing.T) {
	for _, text := range someTexts() {
		if rows, want := sorted.Rows(text), plainRows(text); !slices.Equal(rows, want) {
			t.Fatalf("Rows of %v: %v, not %v", text, rows, want)
		}
	}
}

// 9.1: Rows of small texts, told one by one.
func TestRowsTold(t *testing.T) {
	for _, c := range []struct {
		text string
		want []int
	}{
		{"", []int{0}},
		{"a", []int{1, 0}},
		{"\x00", []int{1, 0}},
		{"\xff", []int{1, 0}},
		{"aa", []int{2, 1, 0}},
		{"ab", []int{2, 0, 1}},
		{"ba", []int{2, 1, 0}},
		{"aba", []int{3, 2, 0, 1}},
		{"\x00\x00\x00", []int{3, 2, 1, 0}},
		{"\x00\xff", []int{2, 0, 1}},
		{"\xff\x00", []int{2, 1, 0}},
		{"banana", []int{6, 5, 3, 1, 0, 4, 2}},
		{"mississippi", []int{11, 10, 7, 4, 1, 0, 9, 8, 6, 3, 5, 2}},
	} {
		if rows := sorted.Rows([]byte(c.text)); !slices.Equal(rows, c.want) {
			t.Errorf("Rows of %q: %v, not %v", c.text, rows, c.want)
		}
	}
}

// 9.1: of no bytes there is one row, of place 0.
func TestRowsOfNoBytes(t *testing.T) {
	for _, text := range [][]byte{nil, {}, make([]byte, 0, 9)} {
		if rows := sorted.Rows(text); !slices.Equal(rows, []int{0}) {
			t.Fatal(rows)
		}
	}
}

// 9.1: bytes that rise stand in their order, those that fall in the other one.
func TestRowsOfAllBytes(t *testing.T) {
	up, down := sorted.Rows(rising()), sorted.Rows(falling())
	if up[0] != 256 || down[0] != 256 {
		t.Fatal(up[0], down[0])
	}
	for k := range 256 {
		if up[k+1] != k || down[k+1] != 255-k {
			t.Fatalf("row %d: %d of bytes that rise, %d of those that fall", k+1, up[k+1], down[k+1])
		}
	}
}

// 9.1: of one letter many times the shortest suffix is the first.
func TestRowsOfOneLetter(t *testing.T) {
	for _, b := range []byte{0, 1, 'a', 254, 255} {
		for _, n := range []int{1, 2, 3, 4, 5, 7, 8, 9, 15, 16, 17, 31, 32, 33, 1023, 1024, 1025} {
			for row, place := range sorted.Rows(bytes.Repeat([]byte{b}, n)) {
				if place != n-row {
					t.Fatalf("row %d of %d times %d: %d", row, n, b, place)
				}
			}
		}
	}
}

// 9.1: Rows of thousands of bytes, of no order and of great repeats.
func TestRowsOfLongTexts(t *testing.T) {
	for _, text := range longTexts() {
		sortedRows(t, text, sorted.Rows(text))
	}
}

// 9.1, rule 1: great repeats end in time, however long what is alike.
func TestRowsOfVeryLongRepeats(t *testing.T) {
	piece := newChance().text(50000, rising())
	for _, text := range [][]byte{
		bytes.Repeat([]byte("a"), 300000),
		bytes.Repeat([]byte("ab"), 150000),
		slices.Concat(piece, piece, piece, piece),
		word(300000),
	} {
		sortedRows(t, text, sorted.Rows(text))
	}
}

// 9.1, T2: Last of texts of every kind is the last column of the rotations,
// sorted plainly.
func TestLast(t *testing.T) {
	for _, text := range someTexts() {
		if l, want := sorted.Last(text), plainLast(text); !slices.Equal(l, want) {
			t.Fatalf("Last of %v: %v, not %v", text, l, want)
		}
	}
}

// 9.1: Last of small texts, told one by one.
func TestLastTold(t *testing.T) {
	for _, c := range []struct {
		text string
		want []int
	}{
		{"", []int{0}},
		{"a", []int{98, 0}},
		{"\x00", []int{1, 0}},
		{"\xff", []int{256, 0}},
		{"aa", []int{98, 98, 0}},
		{"ab", []int{99, 0, 98}},
		{"ba", []int{98, 99, 0}},
		{"aba", []int{98, 99, 0, 98}},
		{"\x00\xff", []int{256, 0, 1}},
		{"\xff\x00", []int{1, 256, 0}},
		{"banana", []int{98, 111, 111, 99, 0, 98, 98}},
	} {
		if l := sorted.Last([]byte(c.text)); !slices.Equal(l, c.want) {
			t.Errorf("Last of %q: %v, not %v", c.text, l, c.want)
		}
	}
}

// lastOf holds l to having of each row the symbol ahead of its place, the end
// once, of place 0, and every other symbol as often as its byte.
func lastOf(t *testing.T, text []byte, l []int) {
	t.Helper()
	rows := sorted.Rows(text)
	if len(l) != len(rows) || len(l) != len(text)+1 {
		t.Fatalf("Last of %s: %d symbols, %d rows", brief(text), len(l), len(rows))
	}
	var many [api.Symbols]int
	for row, s := range l {
		want := 0
		if place := rows[row]; place > 0 {
			want = int(text[place-1]) + 1
		}
		if s != want {
			t.Fatalf("Last of %s: %d in row %d, of place %d, not %d", brief(text), s, row, rows[row], want)
		}
		many[s]++
	}
	if many[0] != 1 {
		t.Fatalf("Last of %s: %d ends", brief(text), many[0])
	}
	for b := range 256 {
		if n := bytes.Count(text, []byte{byte(b)}); many[b+1] != n {
			t.Fatalf("Last of %s: %d times %d, not %d", brief(text), many[b+1], b+1, n)
		}
	}
}

// 9.1: Last goes with Rows, of texts of every kind and of thousands of bytes.
func TestLastGoesWithRows(t *testing.T) {
	for _, text := range append(someTexts(), longTexts()...) {
		lastOf(t, text, sorted.Last(text))
	}
}

// 9.1: of no bytes there is the end alone.
func TestLastOfNoBytes(t *testing.T) {
	for _, text := range [][]byte{nil, {}, make([]byte, 0, 9)} {
		if l := sorted.Last(text); !slices.Equal(l, []int{0}) {
			t.Fatal(l)
		}
	}
}

// 9.2, 9.3: Back of each text's Last is the text.
func TestLastAndBack(t *testing.T) {
	for _, text := range append(someTexts(), longTexts()...) {
		if back, ok := sorted.Back(sorted.Last(text)); !ok || !bytes.Equal(back, text) {
			t.Fatalf("Back of Last of %s: %s, %v", brief(text), brief(back), ok)
		}
	}
}

// 9.3: no two texts have the same transform.
func TestTransformsOfTextsDiffer(t *testing.T) {
	whose := map[string][]byte{}
	for _, text := range smallTexts(7, []byte{0, 'a', 255}) {
		l := fmt.Sprint(sorted.Last(text))
		if other, is := whose[l]; is {
			t.Fatalf("%v and %v: %s", text, other, l)
		}
		whose[l] = text
	}
}

// refused holds Back to telling that l is no text's.
func refused(t *testing.T, l ...int) {
	t.Helper()
	if text, ok := sorted.Back(l); ok || len(text) != 0 {
		t.Fatalf("Back of %s: %s, %v", brief(l), brief(text), ok)
	}
}

// 9.2: Back of no symbols, and of an end alone.
func TestBackOfNothing(t *testing.T) {
	refused(t)
	refused(t, []int{}...)
	refused(t, make([]int, 0, 9)...)
	if text, ok := sorted.Back([]int{0}); !ok || len(text) != 0 {
		t.Fatalf("Back of the end: %v, %v", text, ok)
	}
}

// 9.2: Back of symbols told one by one.
func TestBackTold(t *testing.T) {
	for _, c := range []struct {
		l    []int
		want string
	}{
		{[]int{98, 0}, "a"},
		{[]int{1, 0}, "\x00"},
		{[]int{256, 0}, "\xff"},
		{[]int{98, 99, 0, 98}, "aba"},
		{[]int{99, 0, 98}, "ab"},
		{[]int{98, 111, 111, 99, 0, 98, 98}, "banana"},
	} {
		if text, ok := sorted.Back(c.l); !ok || string(text) != c.want {
			t.Errorf("Back of %v: %q, %v", c.l, text, ok)
		}
	}
}

// 9.2: without an end, and with more than one, symbols are no text's.
func TestBackOfOtherThanOneEnd(t *testing.T) {
	for _, l := range [][]int{
		{98}, {1}, {256}, {98, 98}, {98, 99, 98}, {256, 1},
		{0, 0}, {0, 0, 0}, {98, 0, 0}, {0, 98, 0}, {0, 0, 98}, {98, 99, 0, 0, 98}, {0, 98, 99, 0, 98},
	} {
		refused(t, l...)
	}
	for _, text := range someTexts() {
		l := sorted.Last(text)
		at := slices.Index(l, 0)
		refused(t, slices.Delete(slices.Clone(l), at, at+1)...)
		refused(t, append(slices.Clone(l), 0)...)
		refused(t, slices.Insert(slices.Clone(l), 0, 0)...)
		refused(t, slices.Insert(slices.Clone(l), len(l)/2, 0)...)
	}
}

// 9.2: with what is no symbol, first, in the midst or last, beside the end or
// in its place, symbols are no text's.
func TestBackOfNoSymbol(t *testing.T) {
	for _, bad := range noSymbol {
		refused(t, bad)
		refused(t, bad, bad)
		refused(t, bad, 0)
		refused(t, 0, bad)
		for _, text := range []string{"", "a", "aba", "banana", "\xff\x00\xff"} {
			l := sorted.Last([]byte(text))
			for k := range len(l) + 1 {
				refused(t, slices.Insert(slices.Clone(l), k, bad)...)
			}
			for k := range l {
				turned := slices.Clone(l)
				turned[k] = bad
				refused(t, turned...)
			}
		}
		long := sorted.Last(bytes.Repeat([]byte("ab"), 2000))
		for _, k := range []int{0, 1, len(long) / 2, len(long) - 1} {
			turned := slices.Clone(long)
			turned[k] = bad
			refused(t, turned...)
		}
	}
}

// 9.2: symbols with one end that lead back to it too early are no text's.
func TestBackToTheEndTooEarly(t *testing.T) {
	for _, l := range [][]int{
		{0, 1}, {0, 98}, {0, 256}, {0, 98, 98}, {0, 98, 99}, {0, 99, 98},
		{98, 0, 99}, {98, 0, 98}, {98, 98, 0, 98}, {98, 98, 0, 99}, {98, 0, 99, 100}, {99, 98, 0}, {256, 1, 0},
		append([]int{0}, slices.Repeat([]int{98}, 3000)...),
		append(slices.Repeat([]int{98}, 3000), 0, 98),
		append([]int{98, 0}, slices.Repeat([]int{256}, 3000)...),
	} {
		refused(t, l...)
	}
}

// 9.2: the whole of Back's words, of all lists of few symbols, some of them
// none: the text whose Last the list is, or false.
func TestBackOfAllSmallLists(t *testing.T) {
	letters := []int{-1, 0, 1, 2, 256, 257}
	whose := map[string][]byte{}
	for _, text := range smallTexts(5, []byte{0, 1, 255}) {
		whose[fmt.Sprint(plainLast(text))] = text
	}
	met := 0
	for n := range 7 {
		l, digits := make([]int, n), make([]int, n+1)
		for digits[n] == 0 {
			for k := range l {
				l[k] = letters[digits[k]]
			}
			want, is := whose[fmt.Sprint(l)]
			if text, ok := sorted.Back(l); ok != is || !bytes.Equal(text, want) {
				t.Fatalf("Back of %v: %v, %v, not %v, %v", l, text, ok, want, is)
			}
			if is {
				met++
			}
			for k := range digits {
				if digits[k]++; digits[k] < len(letters) || k == n {
					break
				}
				digits[k] = 0
			}
		}
	}
	if met != len(whose) {
		t.Fatalf("%d lists were a text's, of %d texts", met, len(whose))
	}
}

// asPlain holds Back to what rows tell that are sorted again and again.
func asPlain(t *testing.T, l ...int) bool {
	t.Helper()
	want, is := plainBack(l)
	if !is {
		refused(t, l...)
		return false
	}
	if text, ok := sorted.Back(l); !ok || !bytes.Equal(text, want) {
		t.Fatalf("Back of %v: %v, %v, not %v", l, text, ok, want)
	}
	return true
}

// 9.2: Back of Last with one symbol turned into another.
func TestBackOfOneTurned(t *testing.T) {
	texts, others := 0, 0
	for _, text := range []string{"a", "aa", "aba", "banana", "abab", "\x00\xff\x00", "mississippi", "aaaaaaaa"} {
		l := sorted.Last([]byte(text))
		for k, s := range l {
			for _, to := range []int{0, 1, 97, 98, 99, 100, 105, 111, 112, 116, 117, 255, 256} {
				if to == s {
					continue
				}
				l[k] = to
				if s == 0 || to == 0 {
					refused(t, l...)
				} else if asPlain(t, l...) {
					texts++
				} else {
					others++
				}
			}
			l[k] = s
		}
	}
	if texts < 20 || others < 20 {
		t.Fatalf("too few of a kind: %d, %d", texts, others)
	}
}

// 9.2: Back of symbols in some other order than Last's.
func TestBackInAnotherOrder(t *testing.T) {
	c := newChance()
	texts, others := 0, 0
	for _, text := range []string{"ab", "aab", "aba", "banana", "\x00\xff\x00\xff", "mississippi", "aaaaaa", "abracadabra", "abcdefghij"} {
		l := sorted.Last([]byte(text))
		for range 150 {
			a, b := c.below(len(l)), c.below(len(l))
			l[a], l[b] = l[b], l[a]
			if asPlain(t, l...) {
				texts++
			} else {
				others++
			}
		}
	}
	if texts < 20 || others < 20 {
		t.Fatalf("too few of a kind: %d, %d", texts, others)
	}
}

// 9.2: whatever Back answers has the list as its Last, of thousands too, with
// two of one text's symbols in one another's place.
func TestBackOfLongListsInAnotherOrder(t *testing.T) {
	c := newChance()
	texts, others := 0, 0
	for _, text := range longTexts() {
		l := sorted.Last(text)
		for range 20 {
			a, b := c.below(len(l)), c.below(len(l))
			l[a], l[b] = l[b], l[a]
			back, ok := sorted.Back(l)
			if ok && !slices.Equal(sorted.Last(back), l) || !ok && len(back) != 0 {
				t.Fatalf("Back of %s: %s, %v", brief(l), brief(back), ok)
			}
			if ok {
				texts++
			} else {
				others++
			}
		}
	}
	if texts == 0 || others == 0 {
		t.Fatalf("too few of a kind: %d, %d", texts, others)
	}
}

// 9.2: Same of lists that are alike, and of those that differ, either way.
func TestSame(t *testing.T) {
	for _, c := range []struct {
		a, b []int
		want bool
	}{
		{[]int{0}, []int{0}, true},
		{[]int{98, 99, 0, 98}, []int{98, 99, 0, 98}, true},
		{[]int{-1, 257, math.MinInt, math.MaxInt}, []int{-1, 257, math.MinInt, math.MaxInt}, true},
		{[]int{0}, []int{1}, false},
		{[]int{0}, nil, false},
		{[]int{0}, []int{}, false},
		{[]int{0}, []int{0, 0}, false},
		{[]int{98, 99}, []int{99, 98}, false},
		{[]int{98, 99, 0}, []int{98, 99}, false},
		{[]int{98, 99, 0}, []int{99, 0}, false},
		{[]int{257}, []int{0}, false},
		{[]int{1 << 32}, []int{0}, false},
		{[]int{1}, []int{-1}, false},
		{[]int{math.MinInt}, []int{math.MaxInt}, false},
	} {
		if sorted.Same(c.a, c.b) != c.want || sorted.Same(c.b, c.a) != c.want {
			t.Errorf("Same of %v and %v is not %v", c.a, c.b, c.want)
		}
	}
}

// 9.2, rule 5: a nil list and an empty one are the same.
func TestSameOfNone(t *testing.T) {
	none := [][]int{nil, {}, make([]int, 0, 9)}
	for _, a := range none {
		for _, b := range none {
			if !sorted.Same(a, b) {
				t.Errorf("Same of %#v and %#v: false", a, b)
			}
		}
	}
}

// 9.2: Same of long lists, alike, and with one other symbol at each place.
func TestSameOfLongLists(t *testing.T) {
	a := sorted.Last(bytes.Repeat([]byte("banana"), 50))
	b := slices.Clone(a)
	if !sorted.Same(a, a) || !sorted.Same(a, b) {
		t.Fatal("two lists that are alike")
	}
	for k := range b {
		b[k]++
		if sorted.Same(a, b) || sorted.Same(b, a) || sorted.Same(a, b[:k]) {
			t.Fatalf("two lists that differ at %d", k)
		}
		b[k]--
	}
	if sorted.Same(a, append(b, 0)) || sorted.Same(a[1:], a[:len(a)-1]) {
		t.Fatal("two lists of which one is longer, or goes on")
	}
}

// Rule 2: what is handed in stays as it is, and so does what stands behind it.
func TestNothingHandedInChanges(t *testing.T) {
	for _, text := range [][]byte{nil, []byte("aba"), bytes.Repeat([]byte("ab"), 500), {0, 255, 0}, rising()} {
		room := append(slices.Clone(text), "and more"...)
		before := slices.Clone(room)
		sorted.Rows(room[:len(text)])
		l := sorted.Last(room[:len(text)])
		if !bytes.Equal(room, before) {
			t.Fatalf("Rows or Last changed %s", brief(before))
		}
		wrong := slices.Clone(l)
		slices.Reverse(wrong)
		for _, l := range [][]int{l, wrong, append(slices.Clone(l), 257)} {
			room := append(slices.Clone(l), -7, 300, 0)
			before := slices.Clone(room)
			sorted.Back(room[:len(l)])
			sorted.Same(room[:len(l)], room[1:len(l)])
			if !slices.Equal(room, before) {
				t.Fatalf("Back or Same changed %s", brief(before))
			}
		}
	}
}

// Rule 2: what is handed in is not kept: changed later, it changes no answer.
func TestNothingHandedInIsKept(t *testing.T) {
	text := []byte("banana")
	rows, l := sorted.Rows(text), sorted.Last(text)
	copy(text, "zzzzzz")
	if !slices.Equal(rows, []int{6, 5, 3, 1, 0, 4, 2}) || !slices.Equal(l, []int{98, 111, 111, 99, 0, 98, 98}) {
		t.Fatalf("behind a change of the text: %v, %v", rows, l)
	}
	back, ok := sorted.Back(l)
	clear(l)
	if !ok || string(back) != "banana" {
		t.Fatalf("behind a change of the list: %q, %v", back, ok)
	}
}

// Rules 2 and 3: what is answered is the caller's own: changed, it leaves no
// trace in later answers.
func TestAnswersAreTheCallersOwn(t *testing.T) {
	for _, s := range []string{"", "a", "banana", "\x00\xff"} {
		text := []byte(s)
		wantRows, wantLast := plainRows(text), plainLast(text)
		for range 3 {
			rows, l := sorted.Rows(text), sorted.Last(text)
			back, ok := sorted.Back(l)
			if !slices.Equal(rows, wantRows) || !slices.Equal(l, wantLast) || !ok || !bytes.Equal(back, text) {
				t.Fatalf("of %q: %v, %v, %q, %v", s, rows, l, back, ok)
			}
			for k := range rows {
				rows[k] = -7
			}
			if !slices.Equal(l, wantLast) {
				t.Fatalf("of %q: Rows and Last share what they answer", s)
			}
			for k := range l {
				l[k] = 300
			}
			for k := range back {
				back[k] = 'z'
			}
			_, _, _ = append(rows, 9), append(l, 9), append(back, 9)
		}
	}
}

// 9.3: a text's symbols by way of layer 6: Last has just those of sym.All, and
// Rows begins with the place of its end.
func TestGoesWithSymbols(t *testing.T) {
	for _, text := range someTexts() {
		symbols, l := sym.All(text), sorted.Last(text)
		if at := sorted.Rows(text)[0]; symbols[at] != 0 {
			t.Fatalf("Rows of %v: the first is of place %d", text, at)
		}
		slices.Sort(symbols)
		slices.Sort(l)
		if !sorted.Same(symbols, l) {
			t.Fatalf("Last of %v has other symbols than the text", text)
		}
	}
}

// The chapter's example, and the document's fourth.
func TestExamples(t *testing.T) {
	if l := sorted.Last([]byte("")); !slices.Equal(l, []int{0}) {
		t.Fatal(l)
	}
	if l := sorted.Last([]byte("aba")); !slices.Equal(l, []int{98, 99, 0, 98}) {
		t.Fatal(l)
	}
}
