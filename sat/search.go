package sat

import (
	"cmp"
	"slices"
)

const (
	turn      = 100  // how many clauses are learned in a turn of length 1
	firstMost = 3000 // how many learned clauses are kept at first
	moreMost  = 500  // and how many more each time that some were let go
	fewLevels = 2    // learned clauses of so few levels are kept
)

// search looks for a model: it chooses, goes on by units, and learns where that fails; it tells whether there is one.
// It begins anew from time to time, but for what it has learned; of that it keeps more and more, so it comes to an end.
func (s *solver) search() bool {
	if s.broken {
		s.row = append(s.row, []int{})
		return false
	}
	most, learned := firstMost, 0
	for round := 1; ; round++ {
		left := turn * luby(round)
		for left > 0 {
			at := s.goOn()
			if at == none {
				if !s.choose() {
					return true
				}
				continue
			}
			if len(s.marks) == 0 {
				s.row = append(s.row, []int{})
				return false
			}
			s.learn(at)
			left--
			learned++
		}
		s.back(0)
		if learned > most {
			learned = s.letGo()
			most += moreMost
		}
	}
}

// luby tells how long a turn is: 1 1 2 1 1 2 4 1 1 2 ..
func luby(n int) int {
	for {
		k := 1
		for k < n+1 {
			k *= 2
		}
		if k == n+1 {
			return k / 2
		}
		n -= k/2 - 1
	}
}

// letGo lets go the worse half of what was learned, at level 0, and tells how many learned clauses stay. That some of these set literals of level 0 does no harm: nothing asks why such hold.
func (s *solver) letGo() int {
	var places []int
	for at, c := range s.clauses {
		if c != nil && c.learned {
			places = append(places, at)
		}
	}
	slices.SortStableFunc(places, func(a, b int) int {
		c, d := s.clauses[a], s.clauses[b]
		return cmp.Or(cmp.Compare(c.levels, d.levels), cmp.Compare(len(c.lits), len(d.lits)))
	})
	stay := len(places) / 2
	for _, at := range places[stay:] {
		if s.clauses[at].levels <= fewLevels {
			stay++
			continue
		}
		s.clauses[at] = nil
	}
	return stay
}
