package drv

import (
	"container/heap"
	"slices"
	"sort"

	"tithebarn/api"
)

// graph are names, by their places: which ones each needs.
type graph struct {
	at    map[string]int
	needs [][]int
}

// newGraph is the graph of names and of what they need, and whether no name is there twice.
func newGraph(names []string, needs [][]string) (graph, bool) {
	g := graph{map[string]int{}, make([][]int, len(names))}
	for i, name := range names {
		if _, twice := g.at[name]; twice {
			return graph{}, false
		}
		g.at[name] = i
	}
	for i := range min(len(names), len(needs)) {
		g.needs[i] = g.places(needs[i])
	}
	return g, true
}

// places tells the places of those that are names, in order.
func (g graph) places(l []string) []int {
	var places []int
	for _, name := range l {
		if i, ok := g.at[name]; ok {
			places = append(places, i)
		}
	}
	return places
}

// least is a heap of places, the least one first.
type least struct {
	sort.IntSlice
}

// Push is a heap's.
func (l *least) Push(x any) { l.IntSlice = append(l.IntSlice, x.(int)) }

// Pop is a heap's.
func (l *least) Pop() any {
	last := len(l.IntSlice) - 1
	x := l.IntSlice[last]
	l.IntSlice = l.IntSlice[:last]
	return x
}

// Sort: P24.5.
func Sort(names []string, needs [][]string) ([]int, api.Errno) {
	g, ok := newGraph(names, needs)
	if !ok {
		return nil, api.ErrTwice
	}
	waits := make([]int, len(names))   // for how many that it needs each waits
	users := make([][]int, len(names)) // which ones need each
	free := &least{}                   // the places that wait for none
	ready := func(i int) {
		if waits[i] == 0 {
			heap.Push(free, i)
		}
	}
	for i, l := range g.needs {
		waits[i] = len(l)
		for _, j := range l {
			users[j] = append(users[j], i)
		}
	}
	for i := range names {
		ready(i)
	}
	var order []int
again:
	if free.Len() > 0 {
		i := heap.Pop(free).(int)
		order = append(order, i)
		for _, j := range users[i] {
			waits[j]--
			ready(j)
		}
		goto again
	}
	if len(order) < len(names) {
		return nil, api.ErrCycle
	}
	return order, api.OK
}

// Closure: P24.6.
func Closure(names []string, needs [][]string, roots []string) ([]int, api.Errno) {
	g, ok := newGraph(names, needs)
	if !ok {
		return nil, api.ErrTwice
	}
	seen := make([]bool, len(names))
	var l []int
	see := func(places []int) {
		for _, i := range places {
			if !seen[i] {
				seen[i] = true
				l = append(l, i)
			}
		}
	}
	see(g.places(roots))
	for i := 0; i < len(l); i++ {
		see(g.needs[l[i]])
	}
	slices.Sort(l)
	return l, api.OK
}
