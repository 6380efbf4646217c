package sat

// learn learns a clause from one none of whose literals can hold, goes back to where it would have set a literal, and sets that.
func (s *solver) learn(at int) {
	lits := s.derive(at)
	s.forget(lits)
	lits = s.shorten(lits)
	levels := s.levels(lits)
	s.row = append(s.row, append([]int(nil), lits...))
	s.order.grow()
	if len(lits) == 1 {
		s.back(0)
		s.set(lits[0], none)
		return
	}
	// behind the literal that is set stands the one that was set last of the others: these two watch it
	deepest := 1
	for i := range lits {
		if i > 0 && s.level[abs(lits[i])] > s.level[abs(lits[deepest])] {
			deepest = i
		}
	}
	lits[1], lits[deepest] = lits[deepest], lits[1]
	s.back(s.level[abs(lits[1])])
	s.set(lits[0], s.watch(&clause{lits, true, levels}))
}

// derive goes backward along the trail from a clause none of whose literals can hold, putting in the place of each literal of this level those by which it was set, till there is one alone of this level: the opposite of that is the first of the clause's literals.
func (s *solver) derive(at int) []int {
	lits := []int{0}
	open := 0 // how many literals of this level are to be replaced
	here := len(s.marks)
	i := len(s.trail)
	lit := 0
replace:
	for _, other := range s.clauses[at].lits {
		v := abs(other)
		if other == lit || s.seen[v] || s.level[v] == 0 {
			continue
		}
		s.seen[v] = true
		s.order.bump(v)
		if s.level[v] == here {
			open++
		} else {
			lits = append(lits, other)
		}
	}
	i--
	for !s.seen[abs(s.trail[i])] {
		i--
	}
	lit = s.trail[i]
	open--
	if open > 0 {
		at = s.reason[abs(lit)]
		goto replace
	}
	lits[0] = -lit
	return lits
}

// forget leaves of what was seen the clause's literals alone.
func (s *solver) forget(lits []int) {
	for _, lit := range s.trail[s.marks[len(s.marks)-1]:] {
		s.seen[abs(lit)] = false
	}
	for _, lit := range lits {
		s.seen[abs(lit)] = true
	}
}

// shorten leaves out those literals, but for the first one, that the others set by themselves.
func (s *solver) shorten(lits []int) []int {
	short := []int{lits[0]}
	for _, lit := range lits[1:] {
		if !s.follows(lit) {
			short = append(short, lit)
		}
	}
	for _, lit := range lits {
		s.seen[abs(lit)] = false
	}
	return short
}

// follows: were all other literals of the clause by which a literal's opposite was set seen?
func (s *solver) follows(lit int) bool {
	at := s.reason[abs(lit)]
	if at == none {
		return false
	}
	for _, other := range s.clauses[at].lits {
		v := abs(other)
		if v != abs(lit) && !s.seen[v] && s.level[v] > 0 {
			return false
		}
	}
	return true
}

// levels tells of how many levels a clause's literals are.
func (s *solver) levels(lits []int) int {
	s.count++
	n := 0
	for _, lit := range lits {
		if at := s.level[abs(lit)]; s.stamp[at] != s.count {
			s.stamp[at] = s.count
			n++
		}
	}
	return n
}
