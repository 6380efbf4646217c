package sat

import "tithebarn/cnf"

// none is the reason of a literal that was chosen, or is a clause of its own; and no clause.
const none = -1

// clause is a clause of two literals at least, of which the first two watch it.
type clause struct {
	lits    []int
	learned bool
	levels  int // of a learned one: of how many levels its literals were
}

// watched are the clauses that a literal watches, by their places.
type watched struct {
	list []int
}

// solver looks for a model, and learns a clause where it fails.
type solver struct {
	vars    int
	clauses []*clause // one that was let go is nil
	watches map[int]*watched
	value   []int8 // by literal (at its number and vars): 1, if it holds, -1, if its opposite does
	level   []int  // by variable: at which level it was set
	reason  []int  // by variable: the place of the clause by which it was set
	last    []bool // by variable: whether it held when it was set last
	trail   []int  // the literals that hold, in the order in which they were set
	marks   []int  // by level: how long the trail was ahead of it
	head    int    // how much of the trail has been gone on from
	order   order
	row     [][]int // what was learned
	seen    []bool  // by variable: while a clause is learned
	stamp   []int   // by level: the clause that was counted last
	count   int     // how many clauses were counted
	broken  bool    // there is no model
}

// begin is a solver of a formula that may be.
func begin(f cnf.F) *solver {
	s := &solver{
		vars:    f.Vars,
		watches: map[int]*watched{},
		value:   make([]int8, 2*f.Vars+1),
		level:   make([]int, f.Vars+1),
		reason:  make([]int, f.Vars+1),
		last:    make([]bool, f.Vars+1),
		seen:    make([]bool, f.Vars+1),
		stamp:   make([]int, f.Vars+1),
		order:   newOrder(f.Vars),
	}
	for _, c := range f.Clauses {
		lits, always := cnf.Norm(c)
		if !always {
			s.add(&clause{lits: lits})
		}
	}
	return s
}

// abs tells a literal's variable.
func abs(lit int) int { return max(lit, -lit) }

// is tells 1, if a literal holds, -1, if its opposite does, else 0.
func (s *solver) is(lit int) int8 { return s.value[lit+s.vars] }

// add puts a clause to the others, at level 0, each of its literals once.
func (s *solver) add(c *clause) {
	switch {
	case len(c.lits) == 0:
		s.broken = true
	case len(c.lits) > 1:
		s.watch(c)
	case s.is(c.lits[0]) < 0:
		s.broken = true
	case s.is(c.lits[0]) == 0:
		s.set(c.lits[0], none)
	}
}

// watch puts a clause of two literals at least to the others, and tells its place.
func (s *solver) watch(c *clause) int {
	at := len(s.clauses)
	s.clauses = append(s.clauses, c)
	s.watchBy(c.lits[0], at)
	s.watchBy(c.lits[1], at)
	return at
}

// watchBy lets a literal watch a clause.
func (s *solver) watchBy(lit, at int) {
	w := s.watches[lit]
	if w == nil {
		w = &watched{}
		s.watches[lit] = w
	}
	w.list = append(w.list, at)
}

// set lets a literal hold.
func (s *solver) set(lit, reason int) {
	s.value[lit+s.vars], s.value[s.vars-lit] = 1, -1
	v := abs(lit)
	s.level[v], s.reason[v], s.last[v] = len(s.marks), reason, lit > 0
	s.trail = append(s.trail, lit)
}

// goOn goes on by units, and tells the place of a clause none of whose literals can hold; none, if there is none.
func (s *solver) goOn() int {
	for s.head < len(s.trail) {
		lit := -s.trail[s.head]
		s.head++
		if w := s.watches[lit]; w != nil {
			if at := s.visit(w, lit); at != none {
				return at
			}
		}
	}
	return none
}

// visit asks the clauses that a literal watches, whose opposite was set.
func (s *solver) visit(w *watched, lit int) int {
	list := w.list
	kept := list[:0]
	for i, at := range list {
		c := s.clauses[at]
		if c == nil || s.moves(c.lits, lit, at) {
			continue
		}
		kept = append(kept, at)
		switch s.is(c.lits[0]) {
		case 0:
			s.set(c.lits[0], at)
		case -1:
			w.list = append(kept, list[i+1:]...)
			return at
		}
	}
	w.list = kept
	return none
}

// moves lets another literal watch a clause in the place of one whose opposite was set, if one may; that one is the second one else.
func (s *solver) moves(lits []int, lit, at int) bool {
	if lits[0] == lit {
		lits[0], lits[1] = lits[1], lits[0]
	}
	if s.is(lits[0]) > 0 {
		return false
	}
	for i := 2; i < len(lits); i++ {
		if s.is(lits[i]) >= 0 {
			lits[1], lits[i] = lits[i], lits[1]
			s.watchBy(lits[1], at)
			return true
		}
	}
	return false
}

// back takes back all that was set above a level.
func (s *solver) back(level int) {
	if level >= len(s.marks) {
		return
	}
	keep := s.marks[level]
	for _, lit := range s.trail[keep:] {
		s.value[lit+s.vars], s.value[s.vars-lit] = 0, 0
		s.order.put(abs(lit))
	}
	s.trail, s.marks, s.head = s.trail[:keep], s.marks[:level], keep
}

// choose sets a variable that is open, at a level of its own, and tells whether there was one.
func (s *solver) choose() bool {
	for s.order.any() {
		v := s.order.next()
		if s.is(v) != 0 {
			continue
		}
		s.marks = append(s.marks, len(s.trail))
		if s.last[v] {
			s.set(v, none)
		} else {
			s.set(-v, none)
		}
		return true
	}
	return false
}

// model tells which variables hold.
func (s *solver) model() []bool {
	m := make([]bool, s.vars)
	for i := range m {
		m[i] = s.is(i+1) > 0
	}
	return m
}
