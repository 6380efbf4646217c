package cnf

import (
	"container/heap"
	"slices"

	"tithebarn/api"
)

// places is a heap of clauses' places, the least one first.
type places []int

// Len is a heap's.
func (p places) Len() int { return len(p) }

// Less is a heap's.
func (p places) Less(i, j int) bool { return p[i] < p[j] }

// Swap is a heap's.
func (p places) Swap(i, j int) { p[i], p[j] = p[j], p[i] }

// Push is a heap's.
func (p *places) Push(x any) { *p = append(*p, x.(int)) }

// Pop is a heap's.
func (p *places) Pop() any {
	last := len(*p) - 1
	x := (*p)[last]
	*p = (*p)[:last]
	return x
}

// walk goes on by units. Of each clause it keeps how many of its literals have not their opposite set, so that none need be asked twice in vain.
type walk struct {
	clauses [][]int // each literal once
	left    []int   // by clause: how many of its literals have not their opposite set
	holds   []bool  // by clause: is one of its literals set?
	among   [][]int // by literal: the clauses that have it
	set     []bool  // by literal
	row     []int   // what is set, in order
	clash   bool
	ready   places // the clauses of which one literal is left, and some that were such
}

// index tells a literal's place.
func index(lit int) int {
	if lit < 0 {
		return -2*lit + 1
	}
	return 2 * lit
}

// begin is a walk in which nothing is set.
func begin(f F) *walk {
	w := &walk{
		left:  make([]int, len(f.Clauses)),
		holds: make([]bool, len(f.Clauses)),
		among: make([][]int, 2*f.Vars+2),
		set:   make([]bool, 2*f.Vars+2),
	}
	for i, c := range f.Clauses {
		l := append([]int(nil), c...)
		slices.Sort(l)
		l = slices.Compact(l)
		w.clauses = append(w.clauses, l)
		w.left[i] = len(l)
		for _, lit := range l {
			w.among[index(lit)] = append(w.among[index(lit)], i)
		}
		w.count(i)
	}
	return w
}

// count notes what a clause has come to.
func (w *walk) count(i int) {
	switch w.left[i] {
	case 0:
		w.clash = true
	case 1:
		heap.Push(&w.ready, i)
	}
}

// add sets a literal, behind the others.
func (w *walk) add(lit int) {
	if w.set[index(lit)] {
		return
	}
	w.set[index(lit)] = true
	w.row = append(w.row, lit)
	if w.set[index(-lit)] {
		w.clash = true
	}
	for _, i := range w.among[index(lit)] {
		w.holds[i] = true
	}
	for _, i := range w.among[index(-lit)] {
		w.left[i]--
		w.count(i)
	}
}

// free tells the literal of a clause whose opposite is not set.
func (w *walk) free(i int) int {
	for _, lit := range w.clauses[i] {
		if !w.set[index(-lit)] {
			return lit
		}
	}
	return 0
}

// on goes on by units, till there is no more, or a clash.
func (w *walk) on() {
next:
	if w.clash || len(w.ready) == 0 {
		return
	}
	i := heap.Pop(&w.ready).(int)
	if !w.holds[i] {
		w.add(w.free(i))
	}
	goto next
}

// Unit: P16.4.
func Unit(f F, lits []int) ([]int, bool) {
	if Check(f) != api.OK || !literals(lits, f.Vars) {
		return nil, true
	}
	w := begin(f)
	for _, lit := range lits {
		w.add(lit)
	}
	w.on()
	return w.row, w.clash
}
