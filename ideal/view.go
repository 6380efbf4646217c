package ideal

import (
	"slices"
	"strings"

	"tithebarn/api"
	"tithebarn/catalogue"
	"tithebarn/naming"
	"tithebarn/resolve"
)

// blank stands between words, and between a pick's Name and its Version.
const blank = " "

// view is a state, what is asked for, and what was worked out of both: a catalogue, what is wanted of it.
type view struct {
	state State
	call  Call
	list  []api.Variant
	wants []string
	needs []api.Need
}

// certain tells what is certain of the call.
func (v *view) certain() api.Errno {
	kinds := map[uint8]func() api.Errno{
		Install:  v.install,
		Remove:   v.remove,
		Rollback: v.rollback,
		Switch:   v.switching,
		Delete:   v.deleting,
	}
	do := kinds[v.call.Kind]
	if do == nil {
		return api.ErrArg
	}
	return do()
}

// name tells the name of a word.
func name(word string) string {
	s, _, _ := strings.Cut(word, "@")
	return s
}

// without tells the wants of the state whose names are none of these.
func (v *view) without(names []string) []string {
	return slices.DeleteFunc(Wants(v.state), func(want string) bool { return slices.Contains(names, name(want)) })
}

// install tells what is certain of an Install.
func (v *view) install() api.Errno {
	l, _, e := catalogue.Parse(v.call.Text)
	if e != api.OK {
		return e
	}
	if _, e = catalogue.Wants(v.call.Words); e != api.OK {
		return e
	}
	words := strings.Split(v.call.Words, blank)
	var names []string
	for _, word := range words {
		names = append(names, name(word))
	}
	v.list, v.wants = l, append(v.without(names), words...)
	return v.satisfiable()
}

// remove tells what is certain of a Remove.
func (v *view) remove() api.Errno {
	l, _, e := catalogue.Parse(v.call.Text)
	if e != api.OK {
		return e
	}
	words := strings.Split(v.call.Words, blank)
	for _, word := range words {
		if !naming.Right(word) {
			return api.ErrArg
		}
	}
	old := Wants(v.state)
	for _, word := range words {
		if !slices.ContainsFunc(old, func(want string) bool { return name(want) == word }) {
			return api.ErrNone
		}
	}
	v.list, v.wants = l, v.without(words)
	return v.satisfiable()
}

// satisfiable tells what bars the wants.
func (v *view) satisfiable() api.Errno {
	if len(v.wants) == 0 {
		return api.OK
	}
	needs, e := catalogue.Wants(strings.Join(v.wants, blank))
	if e != api.OK {
		return e
	}
	v.needs = needs
	_, e = resolve.Resolve(v.list, needs)
	return e
}

// rollback tells what is certain of a Rollback.
func (v *view) rollback() api.Errno {
	if v.state.Current == 0 || v.state.greatest(v.state.Current) == 0 {
		return api.ErrGen
	}
	return api.OK
}

// switching tells what is certain of a Switch.
func (v *view) switching() api.Errno {
	if v.state.place(v.call.N) < 0 {
		return api.ErrGen
	}
	return api.OK
}

// deleting tells what is certain of a Delete.
func (v *view) deleting() api.Errno {
	if v.state.place(v.call.N) < 0 {
		return api.ErrGen
	}
	if v.call.N == v.state.Current {
		return api.ErrCurrent
	}
	return api.OK
}

// become tells the state behind the call, of which no error is certain, and whether it may be answered so.
func (v *view) become(a Answer) (State, bool) {
	kinds := map[uint8]func(a Answer) (State, bool){
		Install:  v.made,
		Remove:   v.made,
		Rollback: v.rolled,
		Switch:   v.switched,
		Delete:   v.deleted,
	}
	return kinds[v.call.Kind](a)
}

// made is the state with a generation more.
func (v *view) made(a Answer) (State, bool) {
	if a.N != Next(v.state) || a.N > maxGen || !v.picked(a.Picks) {
		return State{}, false
	}
	g := Gen{a.N, v.wants, append([]string(nil), a.Picks...)}
	return State{append(append([]Gen(nil), v.state.Gens...), g), a.N}, true
}

// picked: are these the variants, in order, of a selection that satisfies what is wanted, all of which is asked for?
func (v *view) picked(picks []string) bool {
	if len(v.wants) == 0 {
		return len(picks) == 0
	}
	at := map[string]int{}
	for i, x := range v.list {
		at[x.Name+blank+x.Version] = i
	}
	var places []int
	for _, pick := range picks {
		i, ok := at[pick]
		if !ok {
			return false
		}
		places = append(places, i)
	}
	asked, e := resolve.Prune(v.list, v.needs, places)
	return e == api.OK && slices.Equal(asked, places)
}

// rolled is the state of which the generation ahead is current.
func (v *view) rolled(a Answer) (State, bool) {
	n := v.state.greatest(v.state.Current)
	return State{v.state.Gens, n}, a.N == n
}

// switched is the state of which another generation is current.
func (v *view) switched(a Answer) (State, bool) {
	return State{v.state.Gens, v.call.N}, true
}

// deleted is the state without a generation.
func (v *view) deleted(a Answer) (State, bool) {
	i := v.state.place(v.call.N)
	return State{slices.Delete(slices.Clone(v.state.Gens), i, i+1), v.state.Current}, true
}
