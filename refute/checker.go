package refute

import (
	"slices"

	"tithebarn/cnf"
)

// none is the reason of a literal that is set from the beginning, and no clause.
const none = -1

// checker asks whether clauses follow by units from a formula's, and from those of a row that are not gone.
type checker struct {
	vars    int
	base    int     // how many clauses the formula has; the row's stand behind them
	clauses [][]int // each literal once; nil, of one that holds always
	short   []int   // the places of those of less than two literals
	gone    []bool  // of the row's: was it let go?
	from    [][]int // of the row's: which of the row it follows from, rising
	watches [][]int // by literal: the clauses that it watches
	value   []int8  // by literal: 1, if it is set, -1, if its opposite is
	reason  []int   // by variable: the clause by which it was set
	trail   []int   // what is set
	needed  []int   // by variable: the last clash that came from its literal
	clashes int     // how many there were
}

// newChecker is one of a formula that may be.
func newChecker(f cnf.F) *checker {
	k := &checker{
		vars:    f.Vars,
		watches: make([][]int, 2*f.Vars+1),
		value:   make([]int8, 2*f.Vars+1),
		reason:  make([]int, f.Vars+1),
		needed:  make([]int, f.Vars+1),
	}
	for _, c := range f.Clauses {
		k.add(c)
	}
	k.base = len(k.clauses)
	return k
}

// literal: is it one of the formula's variables?
func (k *checker) literal(lit int) bool {
	return lit != 0 && lit >= -k.vars && lit <= k.vars
}

// abs tells a literal's variable.
func abs(lit int) int { return max(lit, -lit) }

// add puts a clause behind the others.
func (k *checker) add(c []int) {
	at := len(k.clauses)
	lits, always := cnf.Norm(c)
	k.clauses = append(k.clauses, lits)
	switch {
	case always:
	case len(lits) < 2:
		k.short = append(k.short, at)
	default:
		k.watch(lits[0], at)
		k.watch(lits[1], at)
	}
}

// watch lets a literal watch a clause.
func (k *checker) watch(lit, at int) {
	k.watches[lit+k.vars] = append(k.watches[lit+k.vars], at)
}

// counts: is a clause the formula's, or one of the row ahead of a place, and not gone?
func (k *checker) counts(at, before int) bool {
	i := at - k.base
	return i < 0 || i < before && !k.gone[i]
}

// set sets a literal, and tells whether its opposite is not.
func (k *checker) set(lit, reason int) bool {
	if k.value[lit+k.vars] == 0 {
		k.value[lit+k.vars], k.value[k.vars-lit] = 1, -1
		k.reason[abs(lit)] = reason
		k.trail = append(k.trail, lit)
	}
	return k.value[lit+k.vars] > 0
}

// follows: does a clause follow by units from the formula and those of the row ahead of a place? And from which of the row.
func (k *checker) follows(c []int, before int) ([]int, bool) {
	at := none // the clause with which it clashes
	for _, lit := range c {
		if !k.set(-lit, none) {
			goto clash // it has a literal and its opposite
		}
	}
	at = k.goOn(before)
	if at == none {
		k.clear()
		return nil, false
	}
clash:
	from := k.used(at)
	k.clear()
	return from, true
}

// goOn goes on by units, and tells the clause with which that clashes; none, if it does not.
func (k *checker) goOn(before int) int {
	for _, at := range k.short {
		if k.counts(at, before) && (len(k.clauses[at]) == 0 || !k.set(k.clauses[at][0], at)) {
			return at
		}
	}
	for head := 0; head < len(k.trail); head++ {
		if at := k.visit(-k.trail[head], before); at != none {
			return at
		}
	}
	return none
}

// visit asks the clauses that a literal watches, whose opposite was set.
func (k *checker) visit(lit, before int) int {
	list := k.watches[lit+k.vars]
	kept := list[:0]
	for i, at := range list {
		if !k.counts(at, before) {
			kept = append(kept, at)
			continue
		}
		if k.moves(at, lit) {
			continue
		}
		kept = append(kept, at)
		if !k.set(k.clauses[at][0], at) {
			k.watches[lit+k.vars] = append(kept, list[i+1:]...)
			return at
		}
	}
	k.watches[lit+k.vars] = kept
	return none
}

// moves lets another literal watch a clause in the place of one whose opposite was set, if one may; that one is the second one else.
func (k *checker) moves(at, lit int) bool {
	lits := k.clauses[at]
	if lits[0] == lit {
		lits[0], lits[1] = lits[1], lits[0]
	}
	if k.value[lits[0]+k.vars] > 0 {
		return false
	}
	for i := 2; i < len(lits); i++ {
		if k.value[lits[i]+k.vars] >= 0 {
			lits[1], lits[i] = lits[i], lits[1]
			k.watch(lits[1], at)
			return true
		}
	}
	return false
}

// used tells which of the row a clash comes from, rising: the clause with which it clashes, those by which its literals were set, and so on, backward along the trail.
func (k *checker) used(at int) []int {
	var from []int
	k.clashes++
	use := func(at int) {
		if at == none {
			return
		}
		if at >= k.base {
			from = append(from, at-k.base)
		}
		for _, lit := range k.clauses[at] {
			k.needed[abs(lit)] = k.clashes
		}
	}
	use(at)
	for _, lit := range slices.Backward(k.trail) {
		if k.needed[abs(lit)] == k.clashes {
			use(k.reason[abs(lit)])
		}
	}
	slices.Sort(from)
	return slices.Compact(from)
}

// clear takes back all that is set.
func (k *checker) clear() {
	for _, lit := range k.trail {
		k.value[lit+k.vars], k.value[k.vars-lit] = 0, 0
	}
	k.trail = k.trail[:0]
}
