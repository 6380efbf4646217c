package interp

import (
	"tithebarn/api"
	"tithebarn/files"
	"tithebarn/numbers"
)

// call is what a call does: of which kinds the values are that it is given (t a text, n a number), and what it makes of them.
type call struct {
	kinds string
	do    func(l []Value) Value
}

// table tells what calls do, by their names.
func (m *machine) table() map[string]call {
	return map[string]call{
		"len":   {"t", func(l []Value) Value { return number(float64(len(l[0].Text))) }},
		"str":   {"n", func(l []Value) Value { return m.made(numbers.Print(l[0].Num)) }},
		"num":   {"t", func(l []Value) Value { return parsed(l[0].Text) }},
		"down":  {"n", func(l []Value) Value { return number(numbers.Down(l[0].Num)) }},
		"min":   {"nn", func(l []Value) Value { return number(numbers.Least(l[0].Num, l[1].Num)) }},
		"max":   {"nn", func(l []Value) Value { return number(numbers.Greatest(l[0].Num, l[1].Num)) }},
		"cut":   {"tnn", func(l []Value) Value { return m.made(cut(l[0].Text, place(l[1]), place(l[2]))) }},
		"count": {"", func(l []Value) Value { return number(float64(len(m.inputs))) }},
		"input": {"n", func(l []Value) Value { return m.made(m.inputs[below(l[0], len(m.inputs))].Name) }},
		"has":   {"tt", func(l []Value) Value { _, ok := m.at(l[0].Text, l[1].Text); return truth(ok) }},
		"read":  {"tt", func(l []Value) Value { return m.made(m.data(l[0].Text, l[1].Text)) }},
		"list":  {"tt", func(l []Value) Value { return number(float64(len(m.entries(l[0].Text, l[1].Text)))) }},
		"entry": {"ttn", func(l []Value) Value {
			entries := m.entries(l[0].Text, l[1].Text)
			return m.made(entries[below(l[2], len(entries))].Name)
		}},
	}
}

// call tells the value of a call.
func (m *machine) call(name string, l []Value) Value {
	c, ok := m.calls[name]
	must(ok && len(l) == len(c.kinds))
	for i, v := range l {
		must(v.IsText == (c.kinds[i] == 't'))
	}
	return c.do(l)
}

// parsed tells the number of a text; nan, if it is none.
func parsed(s string) Value {
	x, e := numbers.Parse(s)
	if e != api.OK {
		return firstNames()["nan"]
	}
	return number(x)
}

// place tells the whole number, from 0 on, that a number has to be.
func place(v Value) int {
	n, ok := numbers.Whole(v.Num)
	must(ok && n >= 0)
	return n
}

// below tells the whole number, from 0 on and below n, that a number has to be.
func below(v Value, n int) int {
	i := place(v)
	must(i < n)
	return i
}

// cut tells n bytes of a text from a place on, fewer where there are fewer.
func cut(s string, from, n int) string {
	s = s[min(from, len(s)):]
	return s[:min(n, len(s))]
}

// at tells the node at a path of an input, and whether there is one; where there is no such input, or that is no path, it gives up.
func (m *machine) at(input, path string) (api.Node, bool) {
	for i, in := range m.inputs {
		if in.Name != input {
			continue
		}
		n, e := files.At(in.Tree, path)
		must(e != api.ErrArg)
		return n, e == api.OK && m.right[i]
	}
	panic(api.ErrFault)
}

// data tells the Data of a node that has to be a File, an Exec or a Link.
func (m *machine) data(input, path string) string {
	n, ok := m.at(input, path)
	must(ok && n.Kind != api.Dir)
	return n.Data
}

// entries tells the entries of a node that has to be a Dir.
func (m *machine) entries(input, path string) []api.Entry {
	n, ok := m.at(input, path)
	must(ok && n.Kind == api.Dir)
	return n.Entries
}
