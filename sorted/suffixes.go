package sorted

import "slices"

// suffixes are all suffixes of a text's symbols, sorted by some of their first
// symbols.
type suffixes struct {
	// Where they begin, in their order.
	rows []int
	// Of each, by where it begins, the first row of its group: of those that
	// are alike in the symbols by which they are sorted.
	heads  []int
	groups int
}

func newSuffixes(symbols ...int) *suffixes {
	s := &suffixes{rows: make([]int, len(symbols)), heads: symbols}
	for place, row := range ranksOf(symbols...) {
		s.rows[row] = place
	}
	s.regroup(0)
	return s
}

// sortByTwice sorts by twice as many symbols as those are by which they are
// sorted: in the order of what stands that far behind, each one takes the next
// row of its group. One without anything that far behind has the end ahead of
// it, so it is alone in its group and stays.
func (s *suffixes) sortByTwice(by int) {
	rows, taken := slices.Clone(s.rows), make([]int, len(s.rows))
	for _, behind := range s.rows {
		if behind < by {
			continue
		}
		head := s.heads[behind-by]
		rows[head+taken[head]] = behind - by
		taken[head]++
	}
	s.rows = rows
	s.regroup(by)
}

// regroup parts those of a group that aren't of one group so far behind.
func (s *suffixes) regroup(by int) {
	heads := make([]int, len(s.rows))
	head := 0
	s.groups = 1
	for row := 1; row < len(s.rows); row++ {
		if !s.alike(s.rows[row-1], s.rows[row], by) {
			head = row
			s.groups++
		}
		heads[s.rows[row]] = head
	}
	s.heads = heads
}

// alike asks only of two of one group what stands so far behind them: there it
// is, as both have no end ahead of it.
func (s *suffixes) alike(a, b, by int) bool {
	return s.heads[a] == s.heads[b] && s.heads[a+by] == s.heads[b+by]
}
