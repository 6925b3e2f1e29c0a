package perm

import (
	"iter"

	"scrimshaw/api"
)

// line is the rows, or the places: its spots, one behind the other, some of
// them a pair's. It is kept as the pairs' spans alone: so it costs what pairs
// there are, however many spots there are beside theirs.
type line struct {
	len int
	// By the pairs' numbers. That of none is at once what stands behind all
	// spans, with all of them below its lower side, and, where a span has
	// nothing on a side, what stands there: no spots, no height.
	spans []span
}

// span is a pair's spot and those without a pair right ahead of it. A spot
// that comes or goes so changes one span, and what is told of it by those
// above, however many spots move along.
type span struct {
	gap int // how many spots are ahead of the pair's
	// Of all spans that hang here, this one too.
	len, height int
	// Spans hang in a tree whose sides differ by one in height at most: those
	// ahead of this one on side 0, those behind it on side 1.
	up    int
	sides [2]int
}

func newLine(n int) line {
	return line{len: n, spans: make([]span, 1)}
}

func (l *line) has(at int) bool {
	return at >= 0 && at < l.len
}

// find is the pair in whose span that spot is, and how many of the span's are
// ahead of it; behind all spans, none and how many are between.
func (l *line) find(at int) (int, int) {
	k := l.spans[none].sides[0]
	for k != none {
		s := &l.spans[k]
		lower := l.spans[s.sides[0]].len
		own := lower + s.gap
		switch {
		case at < lower:
			k = s.sides[0]
		case at <= own:
			return k, at - lower
		default:
			k, at = s.sides[1], at-own-1
		}
	}
	return none, at
}

// pair is whose that spot is.
func (l *line) pair(at int) int {
	k, ahead := l.find(at)
	if k == none || ahead != l.spans[k].gap {
		return none
	}
	return k
}

// spot is where the pair's own is; -1 of none.
func (l *line) spot(k int) int {
	if k == none {
		return -1
	}
	at := l.ahead(k)
	for up := l.spans[k].up; up != none; k, up = up, l.spans[up].up {
		if l.spans[up].sides[1] == k {
			at += l.ahead(up) + 1
		}
	}
	return at
}

// ahead is how many spots are ahead of the pair's own, of those below it.
func (l *line) ahead(k int) int {
	s := &l.spans[k]
	return l.spans[s.sides[0]].len + s.gap
}

// all is each pair with its spot, by spots.
func (l *line) all() iter.Seq2[int, int] {
	return func(yield func(int, int) bool) {
		at := -1
		for k := l.outermost(none, 0); k != none; k = l.next(k) {
			at += l.spans[k].gap + 1
			if !yield(k, at) {
				return
			}
		}
	}
}

// comeIn is RowIn or PosIn.
func (l *line) comeIn(at int) int {
	if at < 0 || at > l.len {
		return api.ErrRange
	}
	l.grow(at, 1)
	return api.OK
}

// move is RowMove, of spots that there are.
func (l *line) move(from, to int) {
	k := l.pair(from)
	l.detach(k)
	l.grow(from, -1)
	l.grow(to, 1)
	l.attach(k, to)
}

// grow lets a spot without a pair come in there, if by is 1; the one there,
// which has none, go, if by is -1.
func (l *line) grow(at, by int) {
	l.len += by
	k, _ := l.find(at)
	l.widen(k, by)
}

// widen changes nothing of none: what is behind all spans is not counted.
func (l *line) widen(k, by int) {
	if k == none {
		return
	}
	l.spans[k].gap += by
	for ; k != none; k = l.spans[k].up {
		l.spans[k].len += by
	}
}

// attach makes a spot without a pair that pair's; with none it stays without.
func (l *line) attach(k, at int) {
	if k == none {
		return
	}
	if k == len(l.spans) {
		l.spans = append(l.spans, span{})
	}
	next, gap := l.find(at)
	l.widen(next, -gap-1)
	l.spans[k] = span{gap: gap}
	l.hang(k, next)
}

// detach leaves the pair's spot without one; none has no spot.
func (l *line) detach(k int) {
	if k == none {
		return
	}
	next, gap := l.next(k), l.spans[k].gap
	l.unhang(k)
	l.widen(next, gap+1)
}
