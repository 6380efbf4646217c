package realise

import (
	"slices"

	"tithebarn/api"
	"tithebarn/cas"
	"tithebarn/drv"
	"tithebarn/ranges"
	"tithebarn/refdb"
)

// rise: do picks rise, and are all places of so many variants?
func rise(picks []int, n int) bool {
	last := -1
	for _, i := range picks {
		if i <= last || i >= n {
			return false
		}
		last = i
	}
	return true
}

// needed tells for each pick which ones of the picks it needs, rising.
func needed(l []api.Variant, picks []int) [][]int {
	named := map[string][]int{} // the picks' places, by their names
	for _, i := range picks {
		named[l[i].Name] = append(named[l[i].Name], i)
	}
	rows := make([][]int, len(picks))
	for k, i := range picks {
		needs := func(n api.Need, j int) bool {
			return j != i && ranges.Allows(n.Range, l[j].Version)
		}
		var row []int
		for _, n := range l[i].Needs {
			for _, j := range named[n.Name] {
				if needs(n, j) {
					row = append(row, j)
				}
			}
		}
		slices.Sort(row)
		rows[k] = slices.Compact(row)
	}
	return rows
}

// Plan tells in which order picks are built, and what each needs.
func Plan(l []api.Variant, picks []int) ([]int, [][]int, api.Errno) {
	if !rise(picks, len(l)) {
		return nil, nil, api.ErrArg
	}
	title := func(i int) string { return l[i].Name + " " + l[i].Version }
	rows := needed(l, picks)
	var names []string
	var needs [][]string
	for k, i := range picks {
		names = append(names, title(i))
		var row []string
		for _, j := range rows[k] {
			row = append(row, title(j))
		}
		needs = append(needs, row)
	}
	places, e := drv.Sort(names, needs)
	if e != api.OK {
		return nil, nil, e
	}
	var order []int
	for _, k := range places {
		order = append(order, picks[k])
	}
	return order, rows, api.OK
}

// index knows the derivers of a base's objects, and of those that are built: to go through all for each pick would take too long.
type index struct {
	base    *refdb.Base
	objects []string       // as they were found
	first   map[string]int // by deriver: the place of the first object, rising
}

// newIndex is the index of a base.
func newIndex(b *refdb.Base) *index {
	x := &index{b, nil, map[string]int{}}
	for _, object := range b.Objects() {
		x.add(object)
	}
	return x
}

// add puts a valid object to the others.
func (x *index) add(object string) {
	deriver, _ := x.base.Deriver(object)
	if at, ok := x.first[deriver]; ok && x.objects[at] <= object {
		return
	}
	x.first[deriver] = len(x.objects)
	x.objects = append(x.objects, object)
}

// known tells the first valid object whose deriver is that.
func (x *index) known(deriver string) (string, bool) {
	at, ok := x.first[deriver]
	if !ok {
		return "", false
	}
	return x.objects[at], true
}

// All builds picks.
func All(b *refdb.Base, s *cas.Store, l []api.Variant, picks []int, fuel int) ([]string, int, api.Errno) {
	if b == nil || s == nil {
		return nil, fuel, api.ErrNil
	}
	order, rows, e := Plan(l, picks)
	if e != api.OK {
		return nil, fuel, e
	}
	x := newIndex(b)
	w := &builder{b, s, fuel, x.known}
	built := map[int]int{} // by a pick's place in the list: its place among picks
	objects := make([]string, len(picks))
	for k, i := range picks {
		built[i] = k
	}
	e = guard(func() {
		for _, i := range order {
			d := api.Drv{Name: l[i].Name + "-" + l[i].Version, Recipe: l[i].Recipe}
			for _, j := range rows[built[i]] {
				d.Inputs = append(d.Inputs, objects[built[j]])
			}
			slices.Sort(d.Inputs)
			d.Inputs = slices.Compact(d.Inputs)
			object := w.build(d)
			x.add(object)
			objects[built[i]] = object
		}
	})
	if e != api.OK {
		return nil, w.fuel, e
	}
	return objects, w.fuel, api.OK
}
