package interp

import (
	"cmp"
	"math"

	"tithebarn/api"
	"tithebarn/files"
	"tithebarn/numbers"
	"tithebarn/recipe"
)

// textFuel is of how many bytes of a text that is worked out each uses up 1.
const textFuel = 256

// machine runs a recipe.
type machine struct {
	fuel   int
	names  map[string]Value
	inputs []Input
	right  []bool // by input: is its tree right?
	tree   api.Node
	calls  map[string]call
}

// firstNames are the names that are set at first.
func firstNames() map[string]Value {
	return map[string]Value{"nan": number(math.NaN()), "inf": number(math.Inf(1))}
}

// number is a number's value.
func number(x float64) Value { return Value{Num: x} }

// text is a text's value.
func text(s string) Value { return Value{IsText: true, Text: s} }

// truth is 1 of what holds, else 0.
func truth(holds bool) Value {
	if holds {
		return number(1)
	}
	return number(0)
}

// spend uses up fuel; where less is left, it gives up.
func (m *machine) spend(n int) {
	if m.fuel < n {
		panic(api.ErrFuel)
	}
	m.fuel -= n
}

// must gives up with a fault, unless something holds.
func must(holds bool) {
	if !holds {
		panic(api.ErrFault)
	}
}

// made is the value of a text that was worked out.
func (m *machine) made(s string) Value {
	m.spend(len(s) / textFuel)
	return text(s)
}

// isTrue: is a number's value true?
func isTrue(v Value) bool {
	must(!v.IsText)
	return v.Num != 0 && v.Num == v.Num
}

// values tells the values of expressions, from the left.
func (m *machine) values(l ...recipe.Expr) []Value {
	var values []Value
	for _, x := range l {
		values = append(values, m.value(x))
	}
	return values
}

// value tells an expression's value.
func (m *machine) value(x recipe.Expr) Value {
	m.spend(1)
	switch x.Kind {
	case recipe.Num:
		return number(x.Num)
	case recipe.Text:
		return text(x.Text)
	case recipe.Name:
		v, ok := m.names[x.Text]
		must(ok)
		return v
	case recipe.Not:
		return truth(!isTrue(m.value(x.Args[0])))
	case recipe.Neg:
		v := m.value(x.Args[0])
		must(!v.IsText)
		return number(-v.Num)
	case recipe.Call:
		return m.call(x.Text, m.values(x.Args...))
	}
	switch x.Text {
	case "and", "or":
		return m.decide(x)
	}
	l := m.values(x.Args...)
	return m.between(x.Text, l[0], l[1])
}

// decide tells the value of an and, or an or: the second one is asked only where the first one does not decide.
func (m *machine) decide(x recipe.Expr) Value {
	decides := x.Text == "or"
	if isTrue(m.value(x.Args[0])) == decides {
		return truth(decides)
	}
	return truth(isTrue(m.value(x.Args[1])))
}

// between tells the value of a sign between two.
func (m *machine) between(sign string, a, b Value) Value {
	switch sign {
	case "..":
		must(a.IsText && b.IsText && len(a.Text)+len(b.Text) <= api.MaxFile)
		return m.made(a.Text + b.Text)
	case "==":
		return truth(same(a, b))
	case "!=":
		return truth(!same(a, b))
	}
	must(a.IsText == b.IsText)
	switch sign {
	case "<":
		return truth(compare(a, b) < 0)
	case "<=":
		return truth(compare(a, b) <= 0)
	case ">":
		return truth(compare(a, b) > 0)
	case ">=":
		return truth(compare(a, b) >= 0)
	}
	x, ok := numbers.Do(sign[0], a.Num, b.Num)
	must(ok && !a.IsText)
	return number(x)
}

// same: are two values the same?
func same(a, b Value) bool {
	return a.IsText == b.IsText && compare(a, b) == 0
}

// compare holds two values of one kind against each other.
func compare(a, b Value) int {
	if a.IsText {
		return cmp.Compare(a.Text, b.Text)
	}
	return numbers.Compare(a.Num, b.Num)
}

// steps does steps.
func (m *machine) steps(l []recipe.Step) {
	for _, s := range l {
		m.spend(1)
		m.step(s)
	}
}

// step does a step.
func (m *machine) step(s recipe.Step) {
	switch s.Kind {
	case recipe.Let:
		m.names[s.Name] = m.value(s.A)
	case recipe.File:
		m.file(api.File, s)
	case recipe.Exec:
		m.file(api.Exec, s)
	case recipe.Link:
		m.file(api.Link, s)
	case recipe.Dir:
		m.put(m.value(s.A), api.Node{Kind: api.Dir})
	case recipe.Copy:
		l := m.values(s.A, s.B, s.C)
		must(l[1].IsText && l[2].IsText)
		n, ok := m.at(l[1].Text, l[2].Text)
		must(ok)
		m.put(l[0], n)
	case recipe.If:
		if isTrue(m.value(s.A)) {
			m.steps(s.Body)
		} else {
			m.steps(s.Else)
		}
	case recipe.For:
		m.turns(s)
	case recipe.Fail:
		m.value(s.A)
		panic(api.ErrFault)
	}
}

// file puts a node of a kind that has data.
func (m *machine) file(kind uint8, s recipe.Step) {
	l := m.values(s.A, s.B)
	must(l[1].IsText)
	m.put(l[0], api.Node{Kind: kind, Data: l[1].Text})
}

// put puts a node into the tree.
func (m *machine) put(path Value, n api.Node) {
	must(path.IsText && path.Text != "")
	tree, e := files.Put(m.tree, path.Text, n)
	must(e == api.OK)
	m.tree = tree
}

// turns does a for.
func (m *machine) turns(s recipe.Step) {
	l := m.values(s.A, s.B)
	must(!l[0].IsText && !l[1].IsText)
	from, ok := numbers.Whole(l[0].Num)
	to, ok2 := numbers.Whole(l[1].Num)
	must(ok && ok2)
	if len(s.Body) == 0 && from < to { // all turns but the last one leave nothing behind, and may be too many to wait for
		m.spend(to - from)
		from = to
	}
	for i := from; i <= to; i++ {
		m.spend(1)
		m.names[s.Name] = number(float64(i))
		m.steps(s.Body)
	}
}
