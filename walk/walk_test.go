package walk_test

import (
	"bytes"
	"fmt"
	"math"
	"slices"
	"testing"

	"scrimshaw/api"
	"scrimshaw/sorted"
	"scrimshaw/walk"
)

// far are numbers of no row and no symbol.
var far = []int{
	math.MinInt, math.MinInt + 1, math.MinInt32, -1 << 40, -api.MaxLen, -257, -256, -98, -2, -1,
	1 << 24, math.MaxInt32, api.MaxLen, 1 << 32, 1<<32 + 1, 1<<32 + 98, 1 << 40, 1 << 62, math.MaxInt - 1, math.MaxInt,
}

// noSymbol are numbers below the first symbol and above the last.
var noSymbol = append([]int{257, 258, 354, 511, 512, 513, 1 << 16}, far...)

// chance tells numbers of no order, the same ones in each run.
type chance uint64

func (c *chance) below(n int) int {
	*c ^= *c << 13
	*c ^= *c >> 7
	*c ^= *c << 17
	return int(*c>>16) % n
}

func newChance() *chance {
	c := chance(88172645463325252)
	return &c
}

func (c *chance) text(n int, letters []byte) []byte {
	t := make([]byte, n)
	for k := range t {
		t[k] = letters[c.below(len(letters))]
	}
	return t
}

func rising() []byte {
	t := make([]byte, 256)
	for b := range t {
		t[b] = byte(b)
	}
	return t
}

func falling() []byte {
	t := rising()
	slices.Reverse(t)
	return t
}

// word is the beginning of Fibonacci's word, which repeats itself at every size.
func word(n int) []byte {
	one, other := []byte("b"), []byte("a")
	for len(other) < n {
		one, other = other, append(slices.Clone(other), one...)
	}
	return other[:n]
}

// smallTexts are all texts of up to most bytes, of these letters.
func smallTexts(most int, letters []byte) [][]byte {
	texts := [][]byte{{}}
	for first := 0; len(texts[len(texts)-1]) < most; {
		last := len(texts)
		for _, t := range texts[first:last] {
			for _, b := range letters {
				texts = append(texts, append(slices.Clone(t), b))
			}
		}
		first = last
	}
	return texts
}

// someTexts are texts of every kind, of some hundred bytes at most.
func someTexts() [][]byte {
	texts := [][]byte{nil, {}, make([]byte, 0, 9)}
	for b := range 256 {
		texts = append(texts, []byte{byte(b)})
	}
	for n := 2; n <= 140; n += 23 {
		for _, b := range []byte{0, 'a', 255} {
			texts = append(texts, bytes.Repeat([]byte{b}, n))
		}
		texts = append(texts, word(n), bytes.Repeat([]byte("ab"), n)[:n], bytes.Repeat([]byte("aab"), n)[:n])
	}
	for _, s := range []string{
		"aba", "banana", "mississippi", "abracadabra", "abracadabra abracadabra",
		"\x00\xff", "\xff\x00", "\x00\x00\xff", "\x00\xff\x00", "\xff\x00\xff", "\xff\xff\x00", "\x00\xff\xff\x00", "\xff\x00\x00\xff",
		"\x00\x01\xfe\xff", "\xff\xfe\x01\x00", "\x7f\x80\x7f\x80\x80\x7f", "a\x00a\x00a", "a\xffa\xffa",
	} {
		texts = append(texts, []byte(s))
	}
	texts = append(texts, rising(), falling(), append(rising(), falling()...))
	c := newChance()
	for _, letters := range [][]byte{[]byte("ab"), {0, 255}, {0, 1, 2}, rising()} {
		for n := 3; n < 300; n += 74 {
			texts = append(texts, c.text(n, letters))
		}
	}
	return append(texts, smallTexts(4, []byte{0, 'a', 255})...)
}

// longTexts are texts of thousands of bytes.
func longTexts() [][]byte {
	c := newChance()
	piece := c.text(97, rising())
	return [][]byte{
		bytes.Repeat([]byte("a"), 3000),
		bytes.Repeat([]byte{0}, 2047),
		bytes.Repeat([]byte{255}, 2048),
		append(bytes.Repeat([]byte("a"), 2047), 'b'),
		append([]byte("b"), bytes.Repeat([]byte("a"), 2047)...),
		bytes.Repeat([]byte{0, 255}, 1500),
		bytes.Repeat([]byte("banana"), 500),
		append(bytes.Repeat(piece, 30), piece[:40]...),
		bytes.Repeat(rising(), 10),
		word(4000),
		c.text(5000, rising()),
		c.text(5000, []byte("acgt")),
	}
}

// plain is a text with its suffixes, sorted one against the other.
type plain struct {
	text    []byte
	symbols []int // the end behind them
	places  []int // of each row
	rows    []int // of each place
}

func newPlain(text []byte) *plain {
	p := &plain{text: text}
	for _, b := range text {
		p.symbols = append(p.symbols, int(b)+1)
	}
	p.symbols = append(p.symbols, 0)
	p.rows = make([]int, len(p.symbols))
	for place := range p.symbols {
		p.places = append(p.places, place)
	}
	slices.SortFunc(p.places, func(a, b int) int { return slices.Compare(p.symbols[a:], p.symbols[b:]) })
	for row, place := range p.places {
		p.rows[place] = row
	}
	return p
}

// step is the row of the suffix that begins by places on, as in a ring.
func (p *plain) step(row, by int) int {
	if row < 0 || row >= len(p.places) {
		return -1
	}
	n := len(p.places)
	return p.rows[(p.places[row]+by+n)%n]
}

func (p *plain) first(row int) int {
	if row < 0 || row >= len(p.places) {
		return -1
	}
	return p.symbols[p.places[row]]
}

// last is, of each row, the symbol ahead.
func (p *plain) last() []int {
	var l []int
	for row := range p.places {
		l = append(l, p.first(p.step(row, -1)))
	}
	return l
}

// narrow counts: the rows that it leaves stand behind those of all lesser
// symbols, and behind those to which the rows ahead of lo lead.
func (p *plain) narrow(lo, hi, s int) (int, int) {
	if s < 0 || s > 256 {
		return 0, 0
	}
	n := len(p.places)
	lo, hi = min(max(lo, 0), n), min(max(hi, 0), n)
	at := 0
	for _, other := range p.symbols {
		if other < s {
			at++
		}
	}
	for row := range lo {
		if p.first(p.step(row, -1)) == s {
			at++
		}
	}
	many := 0
	for row := lo; row < hi; row++ {
		if p.first(p.step(row, -1)) == s {
			many++
		}
	}
	return at, at + many
}

// brief keeps what a test tells short.
func brief[S ~[]E, E any](s S) string {
	if len(s) <= 24 {
		return fmt.Sprint(s)
	}
	return fmt.Sprint(len(s), " of ", s[:24], "..")
}

// same holds w to being the plain text's: all of it, every row, and rows that
// are none.
func same(t *testing.T, w *walk.Walk, p *plain) {
	t.Helper()
	if w == nil {
		t.Fatalf("%s: nil", brief(p.text))
	}
	if w.Len() != len(p.text)+1 {
		t.Fatalf("%s: Len %d", brief(p.text), w.Len())
	}
	if l := w.All(); !slices.Equal(l, p.last()) {
		t.Fatalf("%s: All %s, not %s", brief(p.text), brief(l), brief(p.last()))
	}
	if text := w.Text(); !bytes.Equal(text, p.text) {
		t.Fatalf("%s: Text %s", brief(p.text), brief(text))
	}
	for row := range p.places {
		rowIs(t, w, p, row)
	}
	for _, row := range append([]int{-1, -2, len(p.places), len(p.places) + 1}, far...) {
		rowIs(t, w, p, row)
	}
}

func rowIs(t *testing.T, w *walk.Walk, p *plain, row int) {
	t.Helper()
	if back, want := w.Back(row), p.step(row, -1); back != want {
		t.Fatalf("%s: Back of row %d: %d, not %d", brief(p.text), row, back, want)
	}
	if on, want := w.On(row), p.step(row, 1); on != want {
		t.Fatalf("%s: On of row %d: %d, not %d", brief(p.text), row, on, want)
	}
	if s, want := w.First(row), p.first(row); s != want {
		t.Fatalf("%s: First of row %d: %d, not %d", brief(p.text), row, s, want)
	}
}

// narrows holds Narrow to what a count tells.
func (p *plain) narrows(t *testing.T, w *walk.Walk, lo, hi, s int) {
	t.Helper()
	a, b := w.Narrow(lo, hi, s)
	if c, d := p.narrow(lo, hi, s); a != c || b != d {
		t.Fatalf("%s: Narrow of %d, %d by %d: %d, %d, not %d, %d", brief(p.text), lo, hi, s, a, b, c, d)
	}
}

// of is Of, where it should be well.
func of(t *testing.T, l ...int) *walk.Walk {
	t.Helper()
	w, code := walk.Of(l...)
	if code != api.OK || w == nil {
		t.Fatalf("Of of %s: %v, %d", brief(l), w != nil, code)
	}
	return w
}

// 10.1, 10.2: New of texts of every kind, against suffixes sorted plainly.
func TestNew(t *testing.T) {
	for _, text := range append(someTexts(), longTexts()...) {
		same(t, walk.New(text), newPlain(text))
	}
}

// 10.1: Of of a text's transform is what New of the text is.
func TestOf(t *testing.T) {
	for _, text := range append(someTexts(), longTexts()...) {
		p := newPlain(text)
		same(t, of(t, p.last()...), p)
		same(t, of(t, sorted.Last(text)...), p)
		same(t, of(t, walk.New(text).All()...), p)
	}
}

// 10.1: rows told one by one: of each its place, what it begins with, the row
// of the suffix one ahead, that of the one behind.
func TestRowsTold(t *testing.T) {
	for _, c := range []struct {
		text            string
		all             []int
		first, back, on []int
	}{
		{"", []int{0}, []int{0}, []int{0}, []int{0}},
		{"a", []int{98, 0}, []int{0, 98}, []int{1, 0}, []int{1, 0}},
		{"\x00", []int{1, 0}, []int{0, 1}, []int{1, 0}, []int{1, 0}},
		{"\xff", []int{256, 0}, []int{0, 256}, []int{1, 0}, []int{1, 0}},
		// places 2, 1, 0
		{"aa", []int{98, 98, 0}, []int{0, 98, 98}, []int{1, 2, 0}, []int{2, 0, 1}},
		// places 2, 0, 1
		{"ab", []int{99, 0, 98}, []int{0, 98, 99}, []int{2, 0, 1}, []int{1, 2, 0}},
		// places 3, 2, 0, 1
		{"aba", []int{98, 99, 0, 98}, []int{0, 98, 98, 99}, []int{1, 3, 0, 2}, []int{2, 0, 3, 1}},
		// places 6, 5, 3, 1, 0, 4, 2
		{"banana", []int{98, 111, 111, 99, 0, 98, 98}, []int{0, 98, 98, 98, 99, 111, 111}, []int{1, 5, 6, 4, 0, 2, 3}, []int{4, 0, 5, 6, 3, 1, 2}},
	} {
		w := walk.New([]byte(c.text))
		if w.Len() != len(c.text)+1 || !slices.Equal(w.All(), c.all) || string(w.Text()) != c.text {
			t.Errorf("%q: %d, %v, %q", c.text, w.Len(), w.All(), w.Text())
		}
		for row := range c.all {
			if w.First(row) != c.first[row] || w.Back(row) != c.back[row] || w.On(row) != c.on[row] {
				t.Errorf("%q, row %d: %d, %d, %d", c.text, row, w.First(row), w.Back(row), w.On(row))
			}
		}
	}
}

// 10.1: of no bytes there is one row, the end's and the whole text's in one.
func TestNoBytes(t *testing.T) {
	for _, w := range []*walk.Walk{walk.New(nil), walk.New([]byte{}), walk.New(make([]byte, 0, 9)), of(t, 0)} {
		if w.Len() != 1 || w.Back(0) != 0 || w.On(0) != 0 || w.First(0) != 0 || len(w.Text()) != 0 || !slices.Equal(w.All(), []int{0}) {
			t.Fatalf("%d, %d, %d, %d, %v, %v", w.Len(), w.Back(0), w.On(0), w.First(0), w.Text(), w.All())
		}
		if w.Back(1) != -1 || w.On(1) != -1 || w.First(1) != -1 || w.Back(-1) != -1 || w.On(-1) != -1 || w.First(-1) != -1 {
			t.Fatalf("no row: %d, %d, %d", w.Back(1), w.On(1), w.First(1))
		}
		if lo, hi := w.Narrow(0, 1, 0); lo != 0 || hi != 1 {
			t.Fatalf("by the end: %d, %d", lo, hi)
		}
		if lo, hi := w.Narrow(0, 1, 98); lo != 1 || hi != 1 {
			t.Fatalf("by a symbol that is not there: %d, %d", lo, hi)
		}
	}
}

// 10.1: the row of no text's place ahead is the end's, and that of none behind
// the whole text's.
func TestEnds(t *testing.T) {
	for _, text := range append(someTexts(), longTexts()...) {
		w, p := walk.New(text), newPlain(text)
		if whole := p.rows[0]; w.Back(whole) != 0 || w.On(0) != whole {
			t.Fatalf("%s: Back of the whole text's row, %d: %d; On of row 0: %d", brief(text), whole, w.Back(whole), w.On(0))
		}
		if w.First(0) != 0 {
			t.Fatalf("%s: row 0 begins with %d", brief(text), w.First(0))
		}
	}
}

// 10.1: Back and On undo each other.
func TestEachUndoesTheOther(t *testing.T) {
	for _, text := range append(someTexts(), longTexts()...) {
		w := walk.New(text)
		for row := range w.Len() {
			if w.On(w.Back(row)) != row || w.Back(w.On(row)) != row {
				t.Fatalf("%s, row %d: %d, %d", brief(text), row, w.On(w.Back(row)), w.Back(w.On(row)))
			}
		}
	}
}

// round holds step to leading from row through every row once, and to it again.
func round(t *testing.T, text []byte, row int, rows int, step func(int) int) {
	t.Helper()
	passed := make([]bool, rows)
	at := row
	for range rows {
		if at = step(at); at < 0 || at >= rows || passed[at] {
			t.Fatalf("%s, from row %d: to row %d, none or a second time", brief(text), row, at)
		}
		passed[at] = true
	}
	if at != row {
		t.Fatalf("%s, from row %d: to row %d", brief(text), row, at)
	}
}

// 10.1: from any row, as many steps as there are rows lead to it again.
func TestRound(t *testing.T) {
	for _, text := range someTexts() {
		w := walk.New(text)
		for row := range w.Len() {
			if row%7 == 0 || w.Len() < 30 {
				round(t, text, row, w.Len(), w.Back)
				round(t, text, row, w.Len(), w.On)
			}
		}
	}
	for _, text := range longTexts() {
		w := walk.New(text)
		for _, row := range []int{0, 1, w.Len() / 2, w.Len() - 1} {
			round(t, text, row, w.Len(), w.Back)
			round(t, text, row, w.Len(), w.On)
		}
	}
}

// 10.1, T1: the text is read on from row 0 by what the rows begin with, and
// back by the same.
func TestTextRowByRow(t *testing.T) {
	for _, text := range append(someTexts(), longTexts()...) {
		w := walk.New(text)
		row := w.On(0)
		for k, b := range text {
			if w.First(row) != int(b)+1 {
				t.Fatalf("%s: %d at %d", brief(text), w.First(row), k)
			}
			row = w.On(row)
		}
		if row != 0 {
			t.Fatalf("%s: row %d behind all", brief(text), row)
		}
		for k := len(text) - 1; k >= 0; k-- {
			if row = w.Back(row); w.First(row) != int(text[k])+1 {
				t.Fatalf("%s: %d at %d, from behind", brief(text), w.First(row), k)
			}
		}
	}
}

// 10.1: of numbers that are no row's, -1.
func TestNoRow(t *testing.T) {
	for _, text := range append(someTexts(), longTexts()...) {
		w := walk.New(text)
		n := w.Len()
		for _, row := range append([]int{-1, -n, n, n + 1, 2 * n, n + 1<<32, math.MaxInt - n}, far...) {
			if w.Back(row) != -1 || w.On(row) != -1 || w.First(row) != -1 {
				t.Fatalf("%s, row %d: %d, %d, %d", brief(text), row, w.Back(row), w.On(row), w.First(row))
			}
		}
	}
}

// refused holds Of to ErrArg.
func refused(t *testing.T, l ...int) {
	t.Helper()
	if w, code := walk.Of(l...); w != nil || code != api.ErrArg {
		t.Fatalf("Of of %s: %v, %d", brief(l), w != nil, code)
	}
}

// 10.1: Of of no symbols, of ones without an end, with two, with what is no
// symbol, and of those that lead back to the end too early.
func TestOfOther(t *testing.T) {
	refused(t)
	refused(t, []int{}...)
	for _, l := range [][]int{
		{1}, {98}, {256}, {98, 98}, {98, 99, 98},
		{0, 0}, {0, 0, 0}, {98, 0, 0}, {0, 98, 0}, {98, 99, 0, 0, 98},
		{0, 1}, {0, 98}, {0, 256}, {0, 98, 98}, {0, 98, 99}, {98, 0, 99}, {98, 0, 98}, {98, 98, 0, 98}, {98, 98, 0, 99}, {99, 98, 0},
		append([]int{0}, slices.Repeat([]int{98}, 3000)...),
	} {
		refused(t, l...)
	}
	for _, bad := range noSymbol {
		refused(t, bad)
		for _, text := range []string{"", "a", "banana", "\xff\x00\xff"} {
			l := sorted.Last([]byte(text))
			for k := range len(l) + 1 {
				refused(t, slices.Insert(slices.Clone(l), k, bad)...)
			}
			for k := range l {
				turned := slices.Clone(l)
				turned[k] = bad
				refused(t, turned...)
			}
		}
	}
	for _, text := range someTexts() {
		l := sorted.Last(text)
		at := slices.Index(l, 0)
		refused(t, slices.Delete(slices.Clone(l), at, at+1)...)
		refused(t, append(slices.Clone(l), 0)...)
		refused(t, slices.Insert(slices.Clone(l), 0, 0)...)
	}
}

// 10.1: Of of all lists of few symbols, some of them none, is refused or is
// the text's whose transform the list is.
func TestOfAllSmallLists(t *testing.T) {
	letters := []int{-1, 0, 1, 98, 256, 257}
	whose := map[string]*plain{}
	for _, text := range smallTexts(4, []byte{0, 'a', 255}) {
		p := newPlain(text)
		whose[fmt.Sprint(p.last())] = p
	}
	met := 0
	for n := range 6 {
		l, digits := make([]int, n), make([]int, n+1)
		for digits[n] == 0 {
			for k := range l {
				l[k] = letters[digits[k]]
			}
			if p := whose[fmt.Sprint(l)]; p != nil {
				same(t, of(t, l...), p)
				met++
			} else {
				refused(t, l...)
			}
			for k := range digits {
				if digits[k]++; digits[k] < len(letters) || k == n {
					break
				}
				digits[k] = 0
			}
		}
	}
	if met != len(whose) {
		t.Fatalf("%d lists were a text's, of %d texts", met, len(whose))
	}
}

// every are all symbols.
func every() []int {
	var all []int
	for s := range api.Symbols {
		all = append(all, s)
	}
	return all
}

// 10.2: Narrow by every symbol of all rows, of none, of one and of a few.
func TestNarrow(t *testing.T) {
	for _, text := range someTexts() {
		w, p := walk.New(text), newPlain(text)
		n := len(p.places)
		for _, s := range every() {
			p.narrows(t, w, 0, n, s)
			p.narrows(t, w, n/3, 2*n/3+1, s)
		}
		for _, s := range append([]int{0, 1, 97, 99, 255, 256}, p.symbols[:min(n, 4)]...) {
			for lo := 0; lo <= n; lo += 1 + n/9 {
				for hi := lo; hi <= n; hi += 1 + n/9 {
					p.narrows(t, w, lo, hi, s)
				}
				p.narrows(t, w, lo, lo+1, s)
				p.narrows(t, w, lo, n, s)
			}
		}
	}
}

// 10.2: Narrow of all pairs of rows, by all symbols of small texts and those
// beside them, with lo and hi off on either side and in either order.
func TestNarrowOfAllRows(t *testing.T) {
	for _, text := range append(smallTexts(3, []byte{0, 'a', 255}), []byte("aba"), []byte("banana"), []byte("\xff\x00\xff\x00\xff")) {
		w, p := walk.New(text), newPlain(text)
		for lo := -3; lo <= len(p.places)+3; lo++ {
			for hi := -3; hi <= len(p.places)+3; hi++ {
				for _, s := range []int{-1, 0, 1, 2, 97, 98, 99, 111, 255, 256, 257} {
					p.narrows(t, w, lo, hi, s)
				}
			}
		}
	}
}

// 10.2: the rows that Narrow leaves are just those to which Back leads from
// the rows with that symbol ahead.
func TestNarrowIsBack(t *testing.T) {
	c := newChance()
	for _, text := range append(someTexts(), longTexts()...) {
		w := walk.New(text)
		all := w.All()
		for range 8 {
			lo, hi := c.below(w.Len()+1), c.below(w.Len()+1)
			lo, hi = min(lo, hi), max(lo, hi)
			s := all[c.below(len(all))]
			var rows []int
			for row := lo; row < hi; row++ {
				if all[row] == s {
					rows = append(rows, w.Back(row))
				}
			}
			a, b := w.Narrow(lo, hi, s)
			if b-a != len(rows) {
				t.Fatalf("%s: Narrow of %d, %d by %d: %d, %d, of %d rows", brief(text), lo, hi, s, a, b, len(rows))
			}
			for k, row := range rows {
				if row != a+k {
					t.Fatalf("%s: Narrow of %d, %d by %d: %d, %d, without row %d", brief(text), lo, hi, s, a, b, row)
				}
			}
		}
	}
}

// 10.2: hi below lo is taken as lo, and lo and hi below 0 as 0, above Len as Len.
func TestNarrowFarOff(t *testing.T) {
	for _, text := range []string{"", "a", "aba", "banana", "\x00\xff\x00", "mississippi"} {
		w, p := walk.New([]byte(text)), newPlain([]byte(text))
		n := w.Len()
		rows := append([]int{-1, 0, 1, n / 2, n - 1, n, n + 1, n + 1<<32}, far...)
		for _, s := range []int{0, 1, 97, 98, 99, 111, 256} {
			for _, lo := range rows {
				for _, hi := range rows {
					p.narrows(t, w, lo, hi, s)
				}
			}
		}
	}
}

// 10.2: Narrow by what is no symbol.
func TestNarrowByNoSymbol(t *testing.T) {
	for _, text := range []string{"", "a", "banana", "\x00\xff\x00"} {
		w := walk.New([]byte(text))
		for _, s := range noSymbol {
			for _, lo := range append([]int{0, 1, w.Len()}, far...) {
				for _, hi := range append([]int{0, 1, w.Len()}, far...) {
					if a, b := w.Narrow(lo, hi, s); a != 0 || b != 0 {
						t.Fatalf("%q: Narrow of %d, %d by %d: %d, %d", text, lo, hi, s, a, b)
					}
				}
			}
		}
	}
}

// 10.2: by a symbol that the text has not, none is left, where its rows would be.
func TestNarrowByAnAbsentSymbol(t *testing.T) {
	w := walk.New([]byte("banana"))
	for s, want := range map[int]int{1: 1, 97: 1, 100: 5, 110: 5, 112: 7, 256: 7} {
		for _, of := range [][2]int{{0, 7}, {0, 0}, {3, 5}, {7, 7}, {-9, 99}, {5, 3}} {
			if a, b := w.Narrow(of[0], of[1], s); a != want || b != want {
				t.Errorf("Narrow of %v by %d: %d, %d, not %d twice", of, s, a, b, want)
			}
		}
	}
}

// left narrows all rows from a pattern's last byte to its first.
func left(w *walk.Walk, pattern []byte) (int, int) {
	lo, hi := 0, w.Len()
	for k := len(pattern) - 1; k >= 0; k-- {
		lo, hi = w.Narrow(lo, hi, int(pattern[k])+1)
	}
	return lo, hi
}

// stands tells at how many places a pattern stands, overlaps too.
func stands(text, pattern []byte) int {
	many := 0
	for k := range len(text) + 1 {
		if bytes.HasPrefix(text[k:], pattern) {
			many++
		}
	}
	return many
}

// found holds a pattern's rows to being just those whose suffixes begin with it.
func found(t *testing.T, w *walk.Walk, p *plain, pattern []byte) {
	t.Helper()
	lo, hi := left(w, pattern)
	if many := stands(p.text, pattern); hi-lo != many {
		t.Fatalf("%s in %s: rows %d to %d, of %d places", brief(pattern), brief(p.text), lo, hi, many)
	}
	for row := lo; row < hi; row++ {
		if !bytes.HasPrefix(p.text[p.places[row]:], pattern) {
			t.Fatalf("%s in %s: row %d, of place %d", brief(pattern), brief(p.text), row, p.places[row])
		}
	}
}

// 10.3: a pattern is found from its end: all patterns in small texts.
func TestPatternsOfSmallTexts(t *testing.T) {
	patterns := smallTexts(4, []byte{0, 'a', 255})
	for _, text := range append(smallTexts(4, []byte{0, 'a', 255}), []byte("banana"), bytes.Repeat([]byte{0, 'a', 255}, 9), bytes.Repeat([]byte("a"), 20)) {
		w, p := walk.New(text), newPlain(text)
		for _, pattern := range patterns {
			found(t, w, p, pattern)
		}
	}
}

// 10.3: pieces of texts, the whole of them, more than the whole, and pieces
// with another byte ahead or behind.
func TestPatterns(t *testing.T) {
	c := newChance()
	for _, text := range append(someTexts(), longTexts()...) {
		w, p := walk.New(text), newPlain(text)
		found(t, w, p, nil)
		found(t, w, p, text)
		found(t, w, p, append(slices.Clone(text), 'a'))
		found(t, w, p, append([]byte{'a'}, text...))
		for range 5 {
			from := c.below(len(text) + 1)
			piece := text[from : from+c.below(min(len(text)-from, 40)+1)]
			found(t, w, p, piece)
			found(t, w, p, append(slices.Clone(piece), byte(c.below(256))))
			found(t, w, p, append([]byte{byte(c.below(256))}, piece...))
		}
	}
}

// 10.3: rows told one by one, with "ana" narrowed from all seven rows on.
func TestPatternTold(t *testing.T) {
	w := walk.New([]byte("banana"))
	lo, hi := 0, 7
	for _, c := range []struct{ s, lo, hi int }{{98, 1, 4}, {111, 5, 7}, {98, 2, 4}} {
		if lo, hi = w.Narrow(lo, hi, c.s); lo != c.lo || hi != c.hi {
			t.Fatalf("by %d: %d, %d, not %d, %d", c.s, lo, hi, c.lo, c.hi)
		}
	}
}

// Rule 2: what is handed in stays as it is, and so does what stands behind it.
func TestNothingHandedInChanges(t *testing.T) {
	for _, text := range append(someTexts(), longTexts()...) {
		handed := append(slices.Clone(text), "behind"...)
		kept := slices.Clone(handed)
		w := walk.New(handed[:len(text)])
		same := func() {
			t.Helper()
			if !bytes.Equal(handed, kept) {
				t.Fatalf("%s: changed", brief(text))
			}
		}
		same()
		w.Back(0)
		w.On(0)
		w.Text()
		w.All()
		same()

		l := append(sorted.Last(text), 7, 8, 9)
		was := slices.Clone(l)
		of(t, l[:len(text)+1]...).Text()
		if !slices.Equal(l, was) {
			t.Fatalf("%s: its transform changed", brief(text))
		}
	}
	for _, l := range [][]int{{98, 99, 98}, {0, 98, 99}, {0, 0}, {-1, 0}, {98, 0, 257}} {
		was := slices.Clone(l)
		refused(t, l...)
		if !slices.Equal(l, was) {
			t.Fatalf("%v became %v", was, l)
		}
	}
}

// Rule 2: what was handed in may be changed later, and what is answered is the
// caller's own.
func TestNothingIsShared(t *testing.T) {
	for _, text := range [][]byte{{}, []byte("a"), []byte("banana"), {0, 255, 0}, bytes.Repeat([]byte("ab"), 200)} {
		p := newPlain(slices.Clone(text))
		l := p.last()
		w, v := walk.New(text), of(t, l...)
		for k := range text {
			text[k]++
		}
		for k := range l {
			l[k] = 200
		}
		same(t, w, p)
		same(t, v, p)
		for _, x := range []*walk.Walk{w, v} {
			clear(x.All())
			clear(x.Text())
			_ = append(x.All()[:0], 5, 6, 7)
			_ = append(x.Text()[:0], "xyz"...)
			same(t, x, p)
			all, text := x.All(), x.Text()
			for k := range all {
				all[k] = -1
			}
			for k := range text {
				text[k] = 'x'
			}
			same(t, x, p)
		}
	}
}

// Rule 3: two walks have nothing in common, and calls that only read, wrong
// ones too, leave nothing behind.
func TestReadingChangesNothing(t *testing.T) {
	p, q := newPlain([]byte("mississippi")), newPlain([]byte("missouri"))
	w, v := walk.New(p.text), walk.New(q.text)
	for range 3 {
		for _, row := range append([]int{0, 1, 5, 11, 12}, far...) {
			w.Back(row)
			v.On(row)
			w.First(row)
			v.Narrow(row, 9, 100)
			w.Narrow(-row, row, row)
		}
		same(t, w, p)
		same(t, v, q)
	}
}

// Rule 1: a text of very many bytes is walked in time.
func TestVeryLongText(t *testing.T) {
	text := newChance().text(200000, []byte("abcdefgh"))
	w := walk.New(text)
	if w.Len() != len(text)+1 || !bytes.Equal(w.Text(), text) {
		t.Fatalf("Len %d", w.Len())
	}
	row := 0
	for k := len(text) - 1; k >= len(text)-20000; k-- {
		if row = w.Back(row); w.First(row) != int(text[k])+1 {
			t.Fatalf("%d at %d", w.First(row), k)
		}
	}
	for _, n := range []int{1, 2, 3, 4, 5, 6, 20} {
		lo, hi := left(w, text[1000:1000+n])
		if many := stands(text, text[1000:1000+n]); hi-lo != many {
			t.Fatalf("%d rows of %d bytes, of %d places", hi-lo, n, many)
		}
	}
}

// nothing holds w to having no rows.
func nothing(t *testing.T, w *walk.Walk) {
	t.Helper()
	if w.Len() != 0 || len(w.All()) != 0 || len(w.Text()) != 0 {
		t.Fatalf("%d, %v, %v", w.Len(), w.All(), w.Text())
	}
	for _, row := range append([]int{0, 1, 98}, far...) {
		if w.Back(row) != -1 || w.On(row) != -1 || w.First(row) != -1 {
			t.Fatalf("row %d: %d, %d, %d", row, w.Back(row), w.On(row), w.First(row))
		}
		for _, s := range append([]int{0, 1, 98, 256}, noSymbol...) {
			for _, hi := range []int{-1, 0, 1, 99, math.MaxInt} {
				if a, b := w.Narrow(row, hi, s); a != 0 || b != 0 {
					t.Fatalf("Narrow of %d, %d by %d: %d, %d", row, hi, s, a, b)
				}
			}
		}
	}
}

// 10.2: every call on nil.
func TestNil(t *testing.T) {
	nothing(t, nil)
}

// A walk that was made by neither New nor Of is one without rows.
func TestZero(t *testing.T) {
	nothing(t, &walk.Walk{})
}

// 10: Back of the whole text's row, and of the text of no bytes.
func TestExample(t *testing.T) {
	if w := walk.New([]byte("aba")); w.Back(2) != 0 {
		t.Errorf("Back of the whole text's row: %d", w.Back(2))
	}
	if w := walk.New(nil); w.Back(0) != 0 {
		t.Errorf("Back of the one row: %d", w.Back(0))
	}
}
