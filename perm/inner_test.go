package perm

import (
	"slices"
	"testing"

	"scrimshaw/api"
)

// below walks all spans below k: it holds what is told of them to what is so,
// and tells how many there are.
func below(t *testing.T, l *line, k, up int) int {
	t.Helper()
	if k == none {
		return 0
	}
	s := l.spans[k]
	lower, upper := l.spans[s.sides[0]], l.spans[s.sides[1]]
	if s.up != up || s.gap < 0 || s.len != lower.len+s.gap+1+upper.len || s.height != 1+max(lower.height, upper.height) {
		t.Fatalf("span %d below %d: %+v", k, up, s)
	}
	if d := lower.height - upper.height; d < -1 || d > 1 {
		t.Fatalf("span %d: %d, %d high", k, lower.height, upper.height)
	}
	return below(t, l, s.sides[0], k) + 1 + below(t, l, s.sides[1], k)
}

// taken is how many numbers are.
func taken(n *numbers) int {
	if n == nil {
		return 0
	}
	return n.Live() + taken(n.more)
}

// whole holds both lines, and the numbers, to having the pairs that there are.
func whole(t *testing.T, p *Perm) {
	t.Helper()
	pairs := len(p.All())
	for _, l := range []*line{&p.rows, &p.places} {
		top := l.spans[none]
		if n := below(t, l, top.sides[0], none); n != pairs || l.spans[top.sides[0]].len > l.len {
			t.Fatalf("%d spans of %d pairs, %d of %d spots", n, pairs, l.spans[top.sides[0]].len, l.len)
		}
		if top.sides[0] = none; top != (span{}) {
			t.Fatalf("none has %+v", top)
		}
	}
	if taken(p.numbers) != pairs {
		t.Fatalf("%d numbers are taken of %d pairs", taken(p.numbers), pairs)
	}
}

// newOver is a Perm whose arenas have that many numbers each.
func newOver(n, most int) *Perm {
	p, _ := New(n)
	p.numbers = newNumbers(most)
	return p
}

// 11.2, T5: trees are even behind each step, and numbers are given back.
func TestTreesAreEven(t *testing.T) {
	x := uint64(88172645463325252)
	below := func(n int) int {
		x ^= x << 13
		x ^= x >> 7
		x ^= x << 17
		return int(x>>16) % n
	}
	for _, most := range []int{1, 7, api.MaxNodes} {
		p, many := newOver(500, most), 0
		for i := range 3600 {
			rows, places := p.Size()
			// Rows of calls by which pairs come at one place, move, and go.
			switch row := i / 300 % 6; {
			case row < 2:
				p.Add(below(rows), below(places))
			case row == 2:
				p.Add(i%rows, places-1-i%places)
			case row == 3:
				p.RowMove(below(rows), i%2*(rows-1))
			case row == 4:
				p.RowOut(below(rows))
				p.RowIn(below(rows))
			default:
				p.PosOut(i % 2 * (places - 1))
				p.PosIn(places / 2)
			}
			many = max(many, len(p.All()))
			whole(t, p)
		}
		if made := len(p.rows.spans) - 1; made > many || made != len(p.places.spans)-1 {
			t.Fatalf("%d numbers ever, of at most %d pairs", made, many)
		}
	}
}

// 11.1: pairs that are more than one arena has numbers for: all of them stand,
// and what is dropped is used again.
func TestMoreThanAnArena(t *testing.T) {
	const n = 50
	for _, most := range []int{1, 2, 3, 49, 50} {
		p := newOver(n, most)
		var want []api.Pair
		for k := range n {
			pair := api.Pair{Row: k, Pos: (7 * k) % n}
			if p.Add(pair.Row, pair.Pos) != api.OK {
				t.Fatalf("Add %+v, of arenas of %d", pair, most)
			}
			want = append(want, pair)
			whole(t, p)
		}
		for turn := range 3 {
			for k := turn; k < n; k += 3 {
				if p.Drop(k) != api.OK {
					t.Fatalf("Drop %d, of arenas of %d", k, most)
				}
				whole(t, p)
			}
			for k := turn; k < n; k += 3 {
				p.Add(k, (7*k)%n)
			}
			if !slices.Equal(p.All(), want) || len(p.rows.spans) != n+1 {
				t.Fatalf("arenas of %d: %v, %d spans", most, p.All(), len(p.rows.spans))
			}
			whole(t, p)
		}
	}
}

// 11.2, T5: as many pairs as come and go, no more is kept than for the most of
// them that there were at once.
func TestNumbersAreUsedAgain(t *testing.T) {
	p, _ := New(10)
	for k := range 10 {
		p.Add(k, k)
	}
	for i := range 5000 {
		k := i % 10
		switch i % 3 {
		case 0:
			p.Drop(k)
		case 1:
			p.RowOut(k)
			p.RowIn(k)
		default:
			p.PosOut(k)
			p.PosIn(k)
		}
		for row := range 10 {
			for pos := range 10 {
				p.Add(row, pos)
			}
		}
		if len(p.All()) != 10 {
			t.Fatalf("%v", p.All())
		}
	}
	if len(p.rows.spans) != 11 || len(p.places.spans) != 11 || p.numbers.Made() != 10 {
		t.Fatalf("%d, %d spans, %d numbers", len(p.rows.spans), len(p.places.spans), p.numbers.Made())
	}
	whole(t, p)
}
