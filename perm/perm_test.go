package perm_test

import (
	"fmt"
	"math"
	"slices"
	"testing"

	"scrimshaw/api"
	"scrimshaw/perm"
	"scrimshaw/sorted"
)

// far: rows and places that no Perm of these tests has.
var far = []int{
	math.MinInt, math.MinInt + 1, math.MinInt32, -1 << 40, -api.MaxLen, -129, -2, -1,
	1 << 33, 1<<33 + 1, 1 << 40, 1 << 62, math.MaxInt - 1, math.MaxInt,
}

// chance tells numbers of no order, the same ones in each run.
type chance uint64

func (c *chance) below(n int) int {
	*c ^= *c << 13
	*c ^= *c >> 7
	*c ^= *c << 17
	return int(*c>>16) % n
}

func newChance() *chance {
	c := chance(88172645463325252)
	return &c
}

// order is the numbers below n, in no order.
func (c *chance) order(n int) []int {
	l := make([]int, n)
	for k := range l {
		at := c.below(k + 1)
		l[k] = l[at]
		l[at] = k
	}
	return l
}

// plain is what a Perm is to tell, kept as plainly as can be: of each row, and
// of each place, the name of its pair, 0 of none.
type plain struct {
	rows, places []int
	last         int
}

func has(l []int, at int) bool {
	return at >= 0 && at < len(l)
}

// other is where on to that stands which stands at that place of from.
func other(from, to []int, at int) int {
	if !has(from, at) || from[at] == 0 {
		return -1
	}
	return slices.Index(to, from[at])
}

func (m *plain) add(row, pos int) int {
	if !has(m.rows, row) || !has(m.places, pos) {
		return api.ErrRange
	}
	if m.rows[row] != 0 || m.places[pos] != 0 {
		return api.ErrArg
	}
	m.last++
	m.rows[row], m.places[pos] = m.last, m.last
	return api.OK
}

func (m *plain) drop(row int) int {
	pos := other(m.rows, m.places, row)
	if pos < 0 {
		return api.ErrNone
	}
	m.rows[row], m.places[pos] = 0, 0
	return api.OK
}

func comeIn(l *[]int, at int) int {
	if at < 0 || at > len(*l) {
		return api.ErrRange
	}
	*l = slices.Insert(*l, at, 0)
	return api.OK
}

// goOut takes it from l; its pair goes from the others, too.
func goOut(l *[]int, others []int, at int) int {
	if !has(*l, at) {
		return api.ErrRange
	}
	if k := other(*l, others, at); k >= 0 {
		others[k] = 0
	}
	*l = slices.Delete(*l, at, at+1)
	return api.OK
}

func (m *plain) move(from, to int) int {
	if !has(m.rows, from) || !has(m.rows, to) {
		return api.ErrRange
	}
	name := m.rows[from]
	m.rows = slices.Insert(slices.Delete(m.rows, from, from+1), to, name)
	return api.OK
}

func (m *plain) all() []api.Pair {
	var l []api.Pair
	for row := range m.rows {
		if pos := other(m.rows, m.places, row); pos >= 0 {
			l = append(l, api.Pair{Row: row, Pos: pos})
		}
	}
	return l
}

func (m *plain) next(pos int) int {
	for k := max(pos, 0); k < len(m.places); k++ {
		if m.places[k] != 0 {
			return k
		}
	}
	return -1
}

// duo is a Perm and the plain one beside it.
type duo struct {
	t *testing.T
	p *perm.Perm
	m *plain
}

func newDuo(t *testing.T, n int, l ...api.Pair) *duo {
	t.Helper()
	m := &plain{rows: make([]int, n), places: make([]int, n)}
	for _, x := range l {
		if code := m.add(x.Row, x.Pos); code != api.OK {
			t.Fatalf("%d, %v: the test's own pairs: %d", n, l, code)
		}
	}
	p, code := perm.New(n, l...)
	if p == nil || code != api.OK {
		t.Fatalf("New of %d, %d pairs: %v, %d", n, len(l), p != nil, code)
	}
	d := &duo{t, p, m}
	d.same()
	return d
}

func (d *duo) sized(call string) {
	d.t.Helper()
	if rows, places := d.p.Size(); rows != len(d.m.rows) || places != len(d.m.places) {
		d.t.Fatalf("Size behind %s: %d, %d, not %d, %d", call, rows, places, len(d.m.rows), len(d.m.places))
	}
}

func (d *duo) told(call string, got, want int) {
	d.t.Helper()
	if got != want {
		d.t.Fatalf("%s: %d, not %d", call, got, want)
	}
}

// at holds what is told of that row and of that place.
func (d *duo) at(k int) {
	d.t.Helper()
	d.told(fmt.Sprint("Pos ", k), d.p.Pos(k), other(d.m.rows, d.m.places, k))
	d.told(fmt.Sprint("Row ", k), d.p.Row(k), other(d.m.places, d.m.rows, k))
	d.told(fmt.Sprint("Next ", k), d.p.Next(k), d.m.next(k))
}

// same holds all that reads, at every row and place, and beyond both ends.
func (d *duo) same() {
	d.t.Helper()
	d.sized("all")
	if all := d.p.All(); !slices.Equal(all, d.m.all()) {
		d.t.Fatalf("All: %v, not %v", all, d.m.all())
	}
	for k := -2; k < max(len(d.m.rows), len(d.m.places))+3; k++ {
		d.at(k)
	}
	for _, k := range far {
		d.at(k)
	}
}

func (d *duo) did(call string, got, want int) int {
	d.t.Helper()
	d.told(call, got, want)
	d.sized(call)
	return got
}

func (d *duo) add(row, pos int) int {
	d.t.Helper()
	return d.did(fmt.Sprint("Add ", row, pos), d.p.Add(row, pos), d.m.add(row, pos))
}

func (d *duo) drop(row int) int {
	d.t.Helper()
	return d.did(fmt.Sprint("Drop ", row), d.p.Drop(row), d.m.drop(row))
}

func (d *duo) rowIn(row int) int {
	d.t.Helper()
	return d.did(fmt.Sprint("RowIn ", row), d.p.RowIn(row), comeIn(&d.m.rows, row))
}

func (d *duo) posIn(pos int) int {
	d.t.Helper()
	return d.did(fmt.Sprint("PosIn ", pos), d.p.PosIn(pos), comeIn(&d.m.places, pos))
}

func (d *duo) rowOut(row int) int {
	d.t.Helper()
	return d.did(fmt.Sprint("RowOut ", row), d.p.RowOut(row), goOut(&d.m.rows, d.m.places, row))
}

func (d *duo) posOut(pos int) int {
	d.t.Helper()
	return d.did(fmt.Sprint("PosOut ", pos), d.p.PosOut(pos), goOut(&d.m.places, d.m.rows, pos))
}

func (d *duo) rowMove(from, to int) int {
	d.t.Helper()
	return d.did(fmt.Sprint("RowMove ", from, to), d.p.RowMove(from, to), d.m.move(from, to))
}

// is holds a call that the test has told in full to its code.
func is(t *testing.T, call string, code, want int) {
	t.Helper()
	if code != want {
		t.Fatalf("%s: code %d, not %d", call, code, want)
	}
}

// some are pairs of some of n rows, in no order.
func some(c *chance, n, many int) []api.Pair {
	rows, places := c.order(n), c.order(n)
	l := make([]api.Pair, many)
	for k := range l {
		l[k] = api.Pair{Row: rows[k], Pos: places[k]}
	}
	return l
}

// someDuos are of every kind: none to all of the rows with a pair, as many
// rows as places, more of the one, more of the other.
func someDuos(t *testing.T) []*duo {
	t.Helper()
	c := newChance()
	var l []*duo
	for _, n := range []int{0, 1, 2, 3, 7, 20} {
		for many := 0; many <= n; many += 1 + n/4 {
			even := newDuo(t, n, some(c, n, many)...)
			more := newDuo(t, n, some(c, n, many)...)
			less := newDuo(t, n, some(c, n, many)...)
			for range 1 + n/3 {
				more.rowIn(c.below(len(more.m.rows) + 1))
				less.posIn(c.below(len(less.m.places) + 1))
			}
			l = append(l, even, more, less)
		}
	}
	return l
}

// refused holds New to ErrArg.
func refused(t *testing.T, n int, l ...api.Pair) {
	t.Helper()
	if p, code := perm.New(n, l...); p != nil || code != api.ErrArg {
		t.Fatalf("New of %d, %v: %v, %d", n, l, p != nil, code)
	}
}

// 11.1: New of as many as may be, and of as many as may not.
func TestNew(t *testing.T) {
	for _, n := range []int{0, 1, 2, 100} {
		newDuo(t, n)
		newDuo(t, n, []api.Pair{}...)
	}
	for _, n := range []int{api.MaxLen - 1, api.MaxLen} {
		p, code := perm.New(n)
		if p == nil || code != api.OK {
			t.Fatalf("New of %d: %v, %d", n, p != nil, code)
		}
		if rows, places := p.Size(); rows != n || places != n || len(p.All()) != 0 || p.Next(0) != -1 {
			t.Fatalf("of %d: %d, %d, %v", n, rows, places, p.All())
		}
	}
	for _, n := range append([]int{-1, -2, api.MaxLen + 1, api.MaxLen + 2, 1 << 32, 1<<32 + 1}, far...) {
		refused(t, n)
		refused(t, n, api.Pair{})
	}
}

// 11.1: New with pairs: of some rows, of all of them, in any order.
func TestNewOfPairs(t *testing.T) {
	c := newChance()
	for _, n := range []int{1, 2, 3, 10, 60} {
		for many := range n + 1 {
			newDuo(t, n, some(c, n, many)...)
		}
		var rising, falling []api.Pair
		for k := range n {
			rising = append(rising, api.Pair{Row: k, Pos: k})
			falling = append(falling, api.Pair{Row: n - 1 - k, Pos: k})
		}
		newDuo(t, n, rising...)
		newDuo(t, n, falling...)
	}
}

// 11.1: New with a pair among others that can't be added: with no row, no
// place, a row or a place that one ahead has.
func TestNewOfWrongPairs(t *testing.T) {
	refused(t, 0, api.Pair{})
	refused(t, 1, api.Pair{}, api.Pair{})
	c := newChance()
	const n = 6
	for many := range n {
		good := some(c, n, many+1)
		newDuo(t, n, good...)
		for at := range good {
			wrong := func(pair api.Pair) {
				t.Helper()
				l := slices.Clone(good)
				l[at] = pair
				kept := slices.Clone(l)
				refused(t, n, l...)
				if !slices.Equal(l, kept) {
					t.Fatalf("New changed %v to %v", kept, l)
				}
			}
			row, pos := good[at].Row, good[at].Pos
			for _, k := range append([]int{n, n + 1}, far...) {
				wrong(api.Pair{Row: k, Pos: pos})
				wrong(api.Pair{Row: row, Pos: k})
				wrong(api.Pair{Row: k, Pos: k})
			}
			for k, twin := range good {
				if k != at {
					wrong(twin)
					wrong(api.Pair{Row: twin.Row, Pos: pos})
					wrong(api.Pair{Row: row, Pos: twin.Pos})
				}
			}
		}
	}
}

// 11.1: Add of every row with every place, of those off both ends and of those
// that have a pair: ErrRange is told ahead of ErrArg.
func TestAdd(t *testing.T) {
	for _, d := range someDuos(t) {
		rows, places := len(d.m.rows), len(d.m.places)
		for _, k := range append([]int{rows, places, rows + 1, places + 1}, far...) {
			for at := range max(rows, places) {
				if !has(d.m.rows, k) {
					is(t, "Add of no row", d.add(k, at), api.ErrRange)
				}
				if !has(d.m.places, k) {
					is(t, "Add of no place", d.add(at, k), api.ErrRange)
				}
			}
			for _, at := range append([]int{rows, places}, far...) {
				d.add(k, at)
			}
		}
		d.same()
		for row := range rows {
			for pos := range places {
				d.add(row, pos)
			}
		}
		d.same()
		if len(d.m.all()) != min(rows, places) {
			t.Fatalf("%d pairs of %d rows, %d places", len(d.m.all()), rows, places)
		}
	}
}

// 11.1: one pair told in full.
func TestAddTold(t *testing.T) {
	p, _ := perm.New(4)
	is(t, "Add 0, 3", p.Add(0, 3), api.OK)
	is(t, "Add 3, 0", p.Add(3, 0), api.OK)
	is(t, "Add of a row that has one", p.Add(0, 1), api.ErrArg)
	is(t, "Add of a place that has one", p.Add(1, 0), api.ErrArg)
	is(t, "Add of a pair again", p.Add(0, 3), api.ErrArg)
	is(t, "Add of a row that has one, of no place", p.Add(0, 4), api.ErrRange)
	is(t, "Add of a place that has one, of no row", p.Add(-1, 0), api.ErrRange)
	is(t, "Add at how many there are", p.Add(4, 1), api.ErrRange)
	for row, pos := range []int{3, -1, -1, 0} {
		if p.Pos(row) != pos || p.Row(row) != pos {
			t.Fatalf("row %d: %d, place %d: %d", row, p.Pos(row), row, p.Row(row))
		}
	}
	if l := p.All(); !slices.Equal(l, []api.Pair{{Row: 0, Pos: 3}, {Row: 3, Pos: 0}}) {
		t.Fatalf("All: %v", l)
	}
}

// 11.1: Drop of a row with a pair, twice, of one without, of none; what was
// dropped is free again.
func TestDrop(t *testing.T) {
	for _, d := range someDuos(t) {
		for _, k := range append([]int{len(d.m.rows), len(d.m.rows) + 1}, far...) {
			is(t, "Drop of none", d.drop(k), api.ErrNone)
		}
		d.same()
		for row := range d.m.rows {
			pos := other(d.m.rows, d.m.places, row)
			if pos < 0 {
				is(t, "Drop without a pair", d.drop(row), api.ErrNone)
				continue
			}
			is(t, "Drop", d.drop(row), api.OK)
			is(t, "Drop again", d.drop(row), api.ErrNone)
			d.same()
			is(t, "Add again", d.add(row, pos), api.OK)
			d.same()
		}
		for row := range d.m.rows {
			d.drop(row)
		}
		d.same()
	}
}

// 11.2: RowIn and PosIn at every place, at both ends, off them; the new one is
// without a pair, and those from there on go along.
func TestIn(t *testing.T) {
	for _, d := range someDuos(t) {
		for _, k := range far {
			is(t, "RowIn of no place", d.rowIn(k), api.ErrRange)
			is(t, "PosIn of no place", d.posIn(k), api.ErrRange)
		}
		is(t, "RowIn past the end", d.rowIn(len(d.m.rows)+1), api.ErrRange)
		is(t, "PosIn past the end", d.posIn(len(d.m.places)+1), api.ErrRange)
		d.same()
		for k := len(d.m.rows); k >= 0; k-- {
			is(t, "RowIn", d.rowIn(k), api.OK)
			if d.p.Pos(k) != -1 {
				t.Fatalf("a new row %d has place %d", k, d.p.Pos(k))
			}
			d.same()
		}
		for k := len(d.m.places); k >= 0; k-- {
			is(t, "PosIn", d.posIn(k), api.OK)
			if d.p.Row(k) != -1 {
				t.Fatalf("a new place %d has row %d", k, d.p.Row(k))
			}
			d.same()
		}
	}
}

// 11.2: RowOut of each row and PosOut of each place, with and without a pair,
// of the first, of the last, of none; the other half of a pair is free again.
func TestOut(t *testing.T) {
	for _, d := range someDuos(t) {
		for _, k := range far {
			is(t, "RowOut of none", d.rowOut(k), api.ErrRange)
			is(t, "PosOut of none", d.posOut(k), api.ErrRange)
		}
		is(t, "RowOut past the end", d.rowOut(len(d.m.rows)), api.ErrRange)
		is(t, "PosOut past the end", d.posOut(len(d.m.places)), api.ErrRange)
		d.same()
		for k := range len(d.m.rows) {
			pos := other(d.m.rows, d.m.places, k)
			is(t, "RowOut", d.rowOut(k), api.OK)
			d.same()
			is(t, "RowIn", d.rowIn(k), api.OK)
			d.same()
			if pos >= 0 {
				is(t, "Add to what is free again", d.add(k, pos), api.OK)
			}
		}
		for k := range len(d.m.places) {
			row := other(d.m.places, d.m.rows, k)
			is(t, "PosOut", d.posOut(k), api.OK)
			d.same()
			is(t, "PosIn", d.posIn(k), api.OK)
			d.same()
			if row >= 0 {
				is(t, "Add to what is free again", d.add(row, k), api.OK)
			}
		}
		d.same()
	}
}

// 11.2: the last of all, and the first, go until none is left, and others come
// in their stead.
func TestOutToTheLast(t *testing.T) {
	c := newChance()
	for _, n := range []int{1, 2, 9, 40} {
		for end := range 2 {
			d := newDuo(t, n, some(c, n, n-n/3)...)
			for len(d.m.rows) > 0 {
				d.rowOut(end * (len(d.m.rows) - 1))
				d.same()
			}
			if len(d.p.All()) != 0 || d.p.Next(0) != -1 {
				t.Fatalf("no rows: %v", d.p.All())
			}
			is(t, "RowOut of no rows", d.rowOut(0), api.ErrRange)
			is(t, "RowMove of no rows", d.rowMove(0, 0), api.ErrRange)
			is(t, "Add of no rows", d.add(0, 0), api.ErrRange)
			for len(d.m.places) > 0 {
				d.posOut(end * (len(d.m.places) - 1))
			}
			is(t, "PosOut of no places", d.posOut(0), api.ErrRange)
			d.same()
			for range n {
				d.rowIn(len(d.m.rows) * end)
				d.posIn(len(d.m.places) * end)
				d.add(c.below(len(d.m.rows)), c.below(len(d.m.places)))
			}
			d.same()
		}
	}
}

// 11.2: RowMove of every row to every row, there and back: all is as it was.
func TestMove(t *testing.T) {
	for _, d := range someDuos(t) {
		n := len(d.m.rows)
		was := d.p.All()
		for from := range n {
			for to := range n {
				pos := d.p.Pos(from)
				is(t, "RowMove", d.rowMove(from, to), api.OK)
				if d.p.Pos(to) != pos {
					t.Fatalf("RowMove %d, %d: place %d, not %d", from, to, d.p.Pos(to), pos)
				}
				d.same()
				is(t, "RowMove back", d.rowMove(to, from), api.OK)
				d.same()
				if !slices.Equal(d.p.All(), was) {
					t.Fatalf("RowMove %d, %d, and back: %v, not %v", from, to, d.p.All(), was)
				}
			}
		}
		for _, k := range append([]int{n, n + 1}, far...) {
			for at := range n {
				is(t, "RowMove of none", d.rowMove(k, at), api.ErrRange)
				is(t, "RowMove to none", d.rowMove(at, k), api.ErrRange)
			}
			is(t, "RowMove of none to none", d.rowMove(k, k), api.ErrRange)
		}
		d.same()
	}
}

// 11.2: rows told one by one: the row goes with its pair, those between by one.
func TestMoveTold(t *testing.T) {
	for _, c := range []struct {
		from, to int
		places   []int
	}{
		{0, 4, []int{-1, 2, -1, 4, 0}},
		{4, 0, []int{4, 0, -1, 2, -1}},
		{1, 3, []int{0, 2, -1, -1, 4}},
		{2, 1, []int{0, 2, -1, -1, 4}},
		{2, 3, []int{0, -1, -1, 2, 4}},
		{2, 2, []int{0, -1, 2, -1, 4}},
	} {
		p, _ := perm.New(5, api.Pair{Row: 0, Pos: 0}, api.Pair{Row: 2, Pos: 2}, api.Pair{Row: 4, Pos: 4})
		is(t, "RowMove", p.RowMove(c.from, c.to), api.OK)
		for row, pos := range c.places {
			if p.Pos(row) != pos {
				t.Errorf("RowMove %d, %d: row %d has %d, not %d", c.from, c.to, row, p.Pos(row), pos)
			}
		}
		if rows, places := p.Size(); rows != 5 || places != 5 {
			t.Errorf("RowMove %d, %d: Size %d, %d", c.from, c.to, rows, places)
		}
	}
}

// 11.2: rows and places that come in and go out again leave all as it was, and
// so do rows that are moved, each back, the last one first.
func TestThereAndBack(t *testing.T) {
	c := newChance()
	for _, n := range []int{1, 5, 30, 80} {
		d := newDuo(t, n, some(c, n, n/2+1)...)
		was := d.p.All()
		as := func(call string) {
			t.Helper()
			d.same()
			if !slices.Equal(d.p.All(), was) {
				t.Fatalf("%s: %v, not %v", call, d.p.All(), was)
			}
		}
		var rows, places, froms, tos []int
		for range 200 {
			rows, places = append(rows, c.below(len(d.m.rows)+1)), append(places, c.below(len(d.m.places)+1))
			d.rowIn(rows[len(rows)-1])
			d.posIn(places[len(places)-1])
		}
		d.same()
		for k := len(rows) - 1; k >= 0; k-- {
			d.rowOut(rows[k])
			d.posOut(places[k])
		}
		as("in and out")
		for range 300 {
			froms, tos = append(froms, c.below(n)), append(tos, c.below(n))
			d.rowMove(froms[len(froms)-1], tos[len(tos)-1])
		}
		d.same()
		for k := len(froms) - 1; k >= 0; k-- {
			d.rowMove(tos[k], froms[k])
		}
		as("there and back")
	}
}

// edit is one call of those that change, at some place, or just off the ends.
func (d *duo) edit(c *chance, kind int) {
	d.t.Helper()
	row, pos := c.below(len(d.m.rows)+2)-1, c.below(len(d.m.places)+2)-1
	switch kind {
	case 0:
		d.add(row, pos)
	case 1:
		d.drop(row)
	case 2:
		d.rowIn(row)
	case 3:
		d.rowOut(row)
	case 4:
		d.posIn(pos)
	case 5:
		d.posOut(pos)
	default:
		d.rowMove(row, c.below(len(d.m.rows)+2)-1)
	}
}

// 11.2, 11.3: many edits of rows and places, held step by step to the plain
// lists; some kinds more often by turns, so that rows, places and pairs become
// many, few, and more of the one than of the other.
func TestEdits(t *testing.T) {
	kinds := []string{
		"0123456", "0000246", "002244666", "0012466", "1350666", "0222446", "0244462", "33550", "06", "0133335", "0155553", "6660000",
	}
	c := newChance()
	for _, n := range []int{0, 1, 6, 25} {
		d := newDuo(t, n, some(c, n, n/2)...)
		for turn := range 6 * len(kinds) {
			often := kinds[(turn+n)%len(kinds)]
			for range 30 {
				d.edit(c, int(often[c.below(len(often))]-'0'))
				if len(d.m.rows) < 80 && len(d.m.places) < 80 {
					d.same()
				}
			}
			d.same()
			for len(d.m.rows) > 120 {
				d.rowOut(c.below(len(d.m.rows)))
			}
			for len(d.m.places) > 120 {
				d.posOut(c.below(len(d.m.places)))
			}
		}
	}
}

// 11.2: many pairs, and edits at one place, at both ends and at none in
// particular.
func TestManyPairs(t *testing.T) {
	c := newChance()
	const n = 3000
	for turn, at := range []func(n int) int{
		func(n int) int { return 0 },
		func(n int) int { return n - 1 },
		func(n int) int { return n / 2 },
		func(n int) int { return c.below(n) },
	} {
		d := newDuo(t, n, some(c, n, n*(4-turn)/4)...)
		for i := range 1500 {
			d.rowMove(at(n), c.below(n))
			d.rowOut(at(n))
			d.posOut(at(n))
			d.rowIn(at(n))
			d.posIn(at(n))
			d.add(at(n), at(n))
			d.at(at(n))
			if i%500 == 0 {
				d.same()
			}
		}
		for len(d.m.rows) > 0 {
			d.rowOut(at(len(d.m.rows)))
		}
		d.same()
	}
}

// 11.2: All is by rows, Next by places.
func TestAllAndNext(t *testing.T) {
	p, _ := perm.New(10, api.Pair{Row: 7, Pos: 2}, api.Pair{Row: 1, Pos: 5}, api.Pair{Row: 4, Pos: 9}, api.Pair{Row: 9, Pos: 0})
	if l := p.All(); !slices.Equal(l, []api.Pair{{Row: 1, Pos: 5}, {Row: 4, Pos: 9}, {Row: 7, Pos: 2}, {Row: 9, Pos: 0}}) {
		t.Fatalf("All: %v", l)
	}
	for pos, want := range []int{0, 2, 2, 5, 5, 5, 9, 9, 9, 9, -1, -1} {
		if p.Next(pos) != want {
			t.Errorf("Next %d: %d, not %d", pos, p.Next(pos), want)
		}
	}
	for _, pos := range far {
		want := -1
		if pos < 0 {
			want = 0
		}
		if p.Next(pos) != want {
			t.Errorf("Next %d: %d, not %d", pos, p.Next(pos), want)
		}
	}
	p.PosIn(10)
	p.PosOut(9)
	if p.Next(6) != -1 || p.Next(5) != 5 || p.Next(9) != -1 {
		t.Errorf("behind the last: %d, %d, %d", p.Next(6), p.Next(5), p.Next(9))
	}
}

// 11.2: rows and places are counted each for themselves, behind failed calls
// too.
func TestSize(t *testing.T) {
	p, _ := perm.New(2, api.Pair{Row: 0, Pos: 1})
	sized := func(call string, code, wantCode, wantRows, wantPlaces int) {
		t.Helper()
		is(t, call, code, wantCode)
		if rows, places := p.Size(); rows != wantRows || places != wantPlaces {
			t.Fatalf("%s: Size %d, %d, not %d, %d", call, rows, places, wantRows, wantPlaces)
		}
	}
	sized("RowIn", p.RowIn(2), api.OK, 3, 2)
	sized("RowIn past the end", p.RowIn(4), api.ErrRange, 3, 2)
	sized("PosOut", p.PosOut(0), api.OK, 3, 1)
	sized("PosOut of none", p.PosOut(1), api.ErrRange, 3, 1)
	sized("PosIn", p.PosIn(0), api.OK, 3, 2)
	sized("PosIn past the end", p.PosIn(3), api.ErrRange, 3, 2)
	sized("RowMove", p.RowMove(2, 0), api.OK, 3, 2)
	sized("Drop", p.Drop(1), api.OK, 3, 2)
	sized("Drop again", p.Drop(1), api.ErrNone, 3, 2)
	sized("Add", p.Add(2, 0), api.OK, 3, 2)
	sized("RowOut of one with a pair", p.RowOut(2), api.OK, 2, 2)
	sized("RowOut of none", p.RowOut(2), api.ErrRange, 2, 2)
	sized("PosOut of one that was a pair's", p.PosOut(0), api.OK, 2, 1)
}

// T1, rule 4: what only reads changes nothing, and no refused call leaves a
// trace.
func TestNoTrace(t *testing.T) {
	for _, d := range someDuos(t) {
		for range 2 {
			d.same()
			for _, k := range append([]int{-1, len(d.m.rows) + 1}, far...) {
				d.drop(k)
				d.rowMove(k, 0)
				d.rowMove(0, k)
				d.add(k, 0)
				if !has(d.m.rows, k) && k != len(d.m.rows) {
					d.rowIn(k)
					d.rowOut(k)
				}
				if !has(d.m.places, k) && k != len(d.m.places) {
					d.add(0, k)
					d.posIn(k)
					d.posOut(k)
				}
			}
			for row, name := range d.m.rows {
				if name != 0 {
					d.add(row, 0)
				} else {
					d.drop(row)
				}
			}
		}
		d.same()
	}
}

// Rule 2: what is handed in stays as it is and may be changed later; what is
// answered is the caller's own.
func TestNothingIsShared(t *testing.T) {
	c := newChance()
	for _, n := range []int{1, 2, 30} {
		l := some(c, n, n)
		handed := append(slices.Clone(l), api.Pair{Row: 5, Pos: 6})
		d := newDuo(t, n, handed[:n]...)
		if !slices.Equal(handed[:n], l) || handed[n] != (api.Pair{Row: 5, Pos: 6}) {
			t.Fatalf("New changed %v to %v", l, handed)
		}
		for k := range handed {
			handed[k] = api.Pair{Row: -1, Pos: -1}
		}
		d.same()
		all, again := d.p.All(), d.p.All()
		for k := range all {
			all[k] = api.Pair{Row: -7, Pos: -7}
		}
		_ = append(all[:0], handed...)
		if !slices.Equal(again, d.m.all()) {
			t.Fatalf("All shares with All: %v", again)
		}
		d.same()
		d.rowMove(0, n-1)
		d.drop(n / 2)
		d.same()
		if len(again) != n {
			t.Fatalf("All changed: %v", again)
		}
	}
}

// Rule 3: two have nothing in common.
func TestTwo(t *testing.T) {
	c := newChance()
	l := some(c, 20, 12)
	one, two := newDuo(t, 20, l...), newDuo(t, 20, l...)
	for range 200 {
		one.edit(c, c.below(7))
		two.edit(c, c.below(7))
	}
	one.same()
	two.same()
}

// Rule 1: of as many rows as may be, pairs at both ends and between, told and
// edited in time.
func TestMostRows(t *testing.T) {
	const n = api.MaxLen
	p, code := perm.New(n, api.Pair{Row: n - 1, Pos: 0}, api.Pair{Row: 0, Pos: n - 1}, api.Pair{Row: n / 2, Pos: n / 3})
	if code != api.OK {
		t.Fatal(code)
	}
	refused(t, n, api.Pair{Row: n, Pos: 0})
	refused(t, n, api.Pair{Row: 0, Pos: n})
	is(t, "Add", p.Add(n-2, n-2), api.OK)
	is(t, "Add of no row", p.Add(n, 1), api.ErrRange)
	is(t, "RowIn", p.RowIn(n), api.OK)
	is(t, "RowIn", p.RowIn(0), api.OK)
	is(t, "PosIn", p.PosIn(1), api.OK)
	is(t, "RowMove", p.RowMove(n, 0), api.OK)
	if l := p.All(); !slices.Equal(l, []api.Pair{{Row: 0, Pos: 0}, {Row: 2, Pos: n}, {Row: n/2 + 2, Pos: n/3 + 1}, {Row: n, Pos: n - 1}}) {
		t.Fatalf("All: %v", l)
	}
	if rows, places := p.Size(); rows != n+2 || places != n+1 || p.Next(1) != n/3+1 || p.Row(n) != 2 || p.Pos(n) != n-1 {
		t.Fatalf("%d, %d, %d, %d, %d", rows, places, p.Next(1), p.Row(n), p.Pos(n))
	}
	c := newChance()
	for range 100000 {
		row := c.below(n)
		if p.Add(row, c.below(n)) == api.OK {
			p.RowMove(row, c.below(n))
		}
		p.RowIn(c.below(n))
		p.PosOut(c.below(n))
	}
	last := -1
	for _, x := range p.All() {
		if x.Row <= last || p.Pos(x.Row) != x.Pos || p.Row(x.Pos) != x.Row || p.Next(x.Pos) != x.Pos {
			t.Fatalf("%v behind row %d", x, last)
		}
		last = x.Row
	}
}

// follow brings rows, which are of the places that order tells, to where those
// of the text's suffixes stand, behind an edit by which that place came in (by
// is 1) or went (by is -1). It tells the places by rows then.
func (d *duo) follow(order []int, text []byte, at, by int) []int {
	d.t.Helper()
	if by < 0 {
		row := slices.Index(order, at)
		d.rowOut(row)
		d.posOut(at)
		order = slices.Delete(order, row, row+1)
	}
	for row, pos := range order {
		if pos >= at {
			order[row] += by
		}
	}
	if by > 0 {
		d.rowIn(0)
		d.posIn(at)
		order = slices.Insert(order, 0, at)
	}
	for row, pos := range sorted.Rows(text) {
		from := slices.Index(order, pos)
		d.rowMove(from, row)
		order = slices.Insert(slices.Delete(order, from, from+1), row, pos)
	}
	return order
}

// 11.3, T2: where rows of a text's sorted rotations stand in it stays right
// under edits of the text.
func TestRowsOfAText(t *testing.T) {
	c := newChance()
	for _, rate := range []int{1, 3} {
		text := []byte("mississippi")
		order := sorted.Rows(text)
		var l []api.Pair
		for row, pos := range order {
			if pos%rate == 0 {
				l = append(l, api.Pair{Row: row, Pos: pos})
			}
		}
		d := newDuo(t, len(order), l...)
		for range 60 {
			at, by := c.below(len(text)+1), 1
			if at < len(text) && c.below(2) == 0 {
				text, by = slices.Delete(text, at, at+1), -1
			} else {
				text = slices.Insert(text, at, byte('a'+c.below(3)))
			}
			order = d.follow(order, text, at, by)
			d.same()
			for _, x := range d.p.All() {
				if order[x.Row] != x.Pos {
					t.Fatalf("%q: row %d is of place %d, not %d", text, x.Row, order[x.Row], x.Pos)
				}
			}
			if row := slices.Index(order, at); by > 0 && rate == 1 {
				is(t, "Add of the new row", d.add(row, at), api.OK)
			}
		}
	}
}

// nothing holds every call to that of none.
func nothing(t *testing.T, p *perm.Perm) {
	t.Helper()
	for _, k := range append([]int{0, 1, 2, api.MaxLen}, far...) {
		for _, to := range append([]int{0, 1}, far...) {
			if p.Add(k, to) != api.ErrState || p.RowMove(k, to) != api.ErrState {
				t.Fatalf("Add, RowMove of %d, %d", k, to)
			}
		}
		if p.Drop(k) != api.ErrState || p.RowIn(k) != api.ErrState || p.RowOut(k) != api.ErrState || p.PosIn(k) != api.ErrState || p.PosOut(k) != api.ErrState {
			t.Fatalf("%d: not ErrState", k)
		}
		if p.Pos(k) != -1 || p.Row(k) != -1 || p.Next(k) != -1 {
			t.Fatalf("%d: %d, %d, %d", k, p.Pos(k), p.Row(k), p.Next(k))
		}
	}
	if rows, places := p.Size(); rows != 0 || places != 0 || len(p.All()) != 0 {
		t.Fatalf("%d, %d, %v", rows, places, p.All())
	}
}

// 11.2: every call on nil.
func TestNil(t *testing.T) {
	nothing(t, nil)
}

// Rule 1: one that New did not make is as nil.
func TestZero(t *testing.T) {
	nothing(t, &perm.Perm{})
}

// 11: Add(2, 5), RowIn(0): row 3 has 5.
func TestExample(t *testing.T) {
	p, _ := perm.New(6)
	if p.Add(2, 5) != api.OK || p.RowIn(0) != api.OK || p.Pos(3) != 5 || p.Row(5) != 3 || p.Pos(2) != -1 {
		t.Fatalf("%d, %d, %d", p.Pos(3), p.Row(5), p.Pos(2))
	}
}
