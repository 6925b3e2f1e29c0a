package perm

// hang puts a span into the tree, right ahead of next.
func (l *line) hang(k, next int) {
	if below := l.spans[next].sides[0]; below == none {
		l.link(next, 0, k)
	} else {
		l.link(l.outermost(below, 1), 1, k)
	}
	l.settle(k)
}

// unhang takes a span out of the tree: one that has others on both sides gives
// its own place in it to the next.
func (l *line) unhang(k int) {
	low := l.spans[k].up
	switch sides := l.spans[k].sides; none {
	case sides[0]:
		l.replace(k, sides[1])
	case sides[1]:
		l.replace(k, sides[0])
	default:
		next := l.outermost(sides[1], 0)
		if low = l.spans[next].up; low == k {
			low = next
		}
		l.replace(next, l.spans[next].sides[1])
		l.replace(k, next)
		for s, below := range l.spans[k].sides {
			l.link(next, s, below)
		}
	}
	l.settle(low)
}

// outermost is the last span on that side of all below k, k's own if there is
// none there.
func (l *line) outermost(k, s int) int {
	for l.spans[k].sides[s] != none {
		k = l.spans[k].sides[s]
	}
	return k
}

// next is the span right behind k's. It ends at none, on whose lower side all
// others are.
func (l *line) next(k int) int {
	if upper := l.spans[k].sides[1]; upper != none {
		return l.outermost(upper, 0)
	}
	for l.spans[l.spans[k].up].sides[1] == k {
		k = l.spans[k].up
	}
	return l.spans[k].up
}

// settle makes what is told of a span, and of each above it, right again, and
// turns those that are uneven.
func (l *line) settle(k int) {
	for k != none {
		up := l.spans[k].up
		l.measure(k)
		l.even(k)
		k = up
	}
}

// measure asks that what is told of those right below is so.
func (l *line) measure(k int) {
	s := &l.spans[k]
	lower, upper := &l.spans[s.sides[0]], &l.spans[s.sides[1]]
	s.len = lower.len + s.gap + 1 + upper.len
	s.height = 1 + max(lower.height, upper.height)
}

// even turns a span whose sides differ by two in height.
func (l *line) even(k int) {
	for s := range 2 {
		if l.lean(k, s) < 2 {
			continue
		}
		if below := l.spans[k].sides[s]; l.lean(below, 1-s) > 0 {
			l.lift(below, 1-s)
		}
		l.lift(k, s)
		return
	}
}

// lean is by how much that side is higher than the other.
func (l *line) lean(k, s int) int {
	sides := l.spans[k].sides
	return l.spans[sides[s]].height - l.spans[sides[1-s]].height
}

// lift turns a span and the one below it on that side: that one is above then.
func (l *line) lift(k, s int) {
	up := l.spans[k].sides[s]
	l.replace(k, up)
	l.link(k, s, l.spans[up].sides[1-s])
	l.link(up, 1-s, k)
	l.measure(k)
	l.measure(up)
}

// replace hangs a span, or none, where k hangs.
func (l *line) replace(k, by int) {
	up, s := l.spans[k].up, 0
	if l.spans[up].sides[1] == k {
		s = 1
	}
	l.link(up, s, by)
}

func (l *line) link(up, s, k int) {
	l.spans[up].sides[s] = k
	if k != none {
		l.spans[k].up = up
	}
}
