package sat

import "container/heap"

const (
	weightMost = 1 << 60 // above it all weights are made smaller
	weightCut  = 30      // by so many bits
	firstStep  = 1 << 12 // what a variable's weight grows by, at first
	stepGrows  = 16      // that grows by this part of it with each clause that is learned
)

// order is a heap of variables: of those that were used lately to learn the heaviest first, of equal ones the least.
type order struct {
	heap   []int
	place  []int // by variable: where it stands in the heap, or none
	weight []int
	step   int
}

// newOrder is an order of all variables.
func newOrder(vars int) order {
	o := order{place: make([]int, vars+1), weight: make([]int, vars+1), step: firstStep}
	for v := 1; v <= vars; v++ {
		o.place[v] = len(o.heap)
		o.heap = append(o.heap, v)
	}
	return o
}

// Len is a heap's.
func (o *order) Len() int { return len(o.heap) }

// Less is a heap's.
func (o *order) Less(i, j int) bool {
	v, w := o.heap[i], o.heap[j]
	if o.weight[v] != o.weight[w] {
		return o.weight[v] > o.weight[w]
	}
	return v < w
}

// Swap is a heap's.
func (o *order) Swap(i, j int) {
	o.heap[i], o.heap[j] = o.heap[j], o.heap[i]
	o.place[o.heap[i]], o.place[o.heap[j]] = i, j
}

// Push is a heap's.
func (o *order) Push(x any) {
	o.place[x.(int)] = len(o.heap)
	o.heap = append(o.heap, x.(int))
}

// Pop is a heap's.
func (o *order) Pop() any {
	last := len(o.heap) - 1
	v := o.heap[last]
	o.heap = o.heap[:last]
	o.place[v] = none
	return v
}

// any: is there a variable?
func (o *order) any() bool { return len(o.heap) > 0 }

// next takes the first variable out.
func (o *order) next() int { return heap.Pop(o).(int) }

// put puts a variable in, unless it is.
func (o *order) put(v int) {
	if o.place[v] == none {
		heap.Push(o, v)
	}
}

// bump makes a variable heavier.
func (o *order) bump(v int) {
	o.weight[v] += o.step
	if o.weight[v] > weightMost {
		o.lighten()
	}
	if o.place[v] != none {
		heap.Fix(o, o.place[v])
	}
}

// grow lets later uses weigh more than those so far.
func (o *order) grow() {
	o.step += o.step / stepGrows
	if o.step > weightMost {
		o.lighten()
	}
}

// lighten makes all weights smaller.
func (o *order) lighten() {
	for v := range o.weight {
		o.weight[v] >>= weightCut
	}
	o.step = max(o.step>>weightCut, firstStep)
	heap.Init(o) // weights that were unlike may be alike now
}
