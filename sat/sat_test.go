package sat

import (
	"math"
	"math/rand"
	"reflect"
	"slices"
	"testing"

	"tithebarn/api"
	"tithebarn/cnf"
)

func c(l ...int) []int { return l }

func formula(vars int, l ...[]int) cnf.F { return cnf.F{Vars: vars, Clauses: l} }

// refutes: is a row a refutation, by the document's words?
func refutes(f cnf.F, row [][]int) bool {
	all := cnf.F{Vars: f.Vars, Clauses: slices.Clone(f.Clauses)}
	for _, clause := range row {
		var lits []int
		for _, lit := range clause {
			lits = append(lits, -lit)
		}
		if cnf.Check(cnf.F{Vars: f.Vars, Clauses: [][]int{clause}}) != api.OK {
			return false
		}
		if _, clash := cnf.Unit(all, lits); !clash {
			return false
		}
		all.Clauses = append(all.Clauses, clause)
	}
	return len(row) > 0 && len(row[len(row)-1]) == 0
}

// check asks for a formula, and holds the answer against itself; it tells whether there is a model.
func check(t *testing.T, f cnf.F) bool {
	t.Helper()
	model, row, e := Solve(f)
	again, row2, e2 := Solve(f)
	if !slices.Equal(model, again) || !reflect.DeepEqual(row, row2) || e != e2 {
		t.Fatalf("%v: another answer", f)
	}
	switch e {
	case api.OK:
		if len(model) != f.Vars || !cnf.Holds(f, model) || row != nil {
			t.Fatalf("%v: %v is no model", f, model)
		}
	case api.ErrUnsat:
		if model != nil || !refutes(f, row) {
			t.Fatalf("%v: %v is no refutation", f, row)
		}
	default:
		t.Fatalf("error %d", e)
	}
	return e == api.OK
}

// random makes a formula of clauses of so many literals.
func random(r *rand.Rand, vars, clauses, size int) cnf.F {
	f := cnf.F{Vars: vars}
	for range clauses {
		var l []int
		for range size {
			l = append(l, (1+r.Intn(vars))*(1-2*r.Intn(2)))
		}
		f.Clauses = append(f.Clauses, l)
	}
	return f
}

// holes makes the formula that n + 1 pigeons sit in n holes.
func holes(n int) cnf.F {
	f := cnf.F{Vars: n * (n + 1)}
	at := func(p, h int) int { return p*n + h + 1 }
	for p := range n + 1 {
		var l []int
		for h := range n {
			l = append(l, at(p, h))
			for q := range p {
				f.Clauses = append(f.Clauses, c(-at(p, h), -at(q, h)))
			}
		}
		f.Clauses = append(f.Clauses, l)
	}
	return f
}

// P17.1 and the document's examples
func TestSolve(t *testing.T) {
	if m, row, e := Solve(formula(2, c(1, 2), c(-1))); e != api.OK || row != nil || !slices.Equal(m, []bool{false, true}) {
		t.Fatal(m, row, e)
	}
	if m, row, e := Solve(formula(1, c(1), c(-1))); e != api.ErrUnsat || m != nil || len(row) != 1 || len(row[0]) != 0 {
		t.Fatal(m, row, e)
	}
	check(t, formula(2, c(1, 2), c(1, -2), c(-1, 2), c(-1, -2)))
	if m, row, e := Solve(cnf.F{}); e != api.OK || len(m) != 0 || row != nil {
		t.Fatal(m, row, e)
	}
	for i, f := range []cnf.F{formula(0, c()), formula(3, c(1), c()), formula(2, c(1, 1, 1), c(-1, -1)), formula(1, c(1, 1, -1), c(-1), c(1)), formula(3, c(1, 2), c(-1), c(-2, 3), c(-3, -2))} {
		if check(t, f) {
			t.Errorf("%d has a model", i)
		}
	}
	for i, f := range []cnf.F{formula(5), formula(3, c(1, -1), c(2, 2, -2, 3)), formula(4, c(1), c(-1, 2), c(-2, 3, 4), c(-3, -4))} {
		if !check(t, f) {
			t.Errorf("%d has no model", i)
		}
	}
	long := make([]int, api.MaxLits+1)
	for i, x := range []struct {
		f    cnf.F
		want api.Errno
	}{{formula(api.MaxVars + 1), api.ErrLarge}, {formula(-1, long), api.ErrLarge}, {formula(-1), api.ErrArg}, {formula(2, c(3)), api.ErrArg}, {formula(2, c(0)), api.ErrArg}, {formula(2, c(math.MinInt)), api.ErrArg}} {
		if m, row, e := Solve(x.f); m != nil || row != nil || e != x.want {
			t.Errorf("%d: %d", i, e)
		}
	}
}

// P17.1, P17.4: against all models
func TestSmall(t *testing.T) {
	r := rand.New(rand.NewSource(17))
	both := [2]int{}
	for i := range 3000 {
		vars := 1 + r.Intn(7)
		f := random(r, vars, r.Intn(5*vars), 1+i%3)
		has := false
		for m := range 1 << vars {
			model := make([]bool, vars)
			for v := range model {
				model[v] = m>>v&1 == 1
			}
			has = has || cnf.Holds(f, model)
		}
		if check(t, f) != has {
			t.Fatalf("%v: %t", f, has)
		}
		if has {
			both[0]++
		} else {
			both[1]++
		}
	}
	if both[0] < 500 || both[1] < 500 {
		t.Fatal(both)
	}
}

// P17.4: such as need much to be learned
func TestHard(t *testing.T) {
	for n := 1; n <= 6; n++ {
		if check(t, holes(n)) {
			t.Fatal(n, "holes")
		}
	}
	if _, _, e := Solve(holes(7)); e != api.ErrUnsat {
		t.Fatal(e)
	}
	r := rand.New(rand.NewSource(3))
	for range 30 {
		check(t, random(r, 40, 170, 3))
	}
	for range 3 {
		if m, _, e := Solve(random(r, 150, 600, 3)); e == api.OK && len(m) != 150 {
			t.Fatal("a model")
		}
	}
	// one that lets learned clauses go
	f := random(r, 170, 740, 3)
	if m, row, e := Solve(f); e == api.OK && !cnf.Holds(f, m) || e == api.ErrUnsat && len(row) == 0 {
		t.Fatal(e)
	}
}

// P17.4: large ones
func TestLarge(t *testing.T) {
	f := cnf.F{Vars: api.MaxVars}
	for v := 1; v < f.Vars; v++ {
		f.Clauses = append(f.Clauses, c(-v, v+1))
	}
	if m, _, e := Solve(f); e != api.OK || !cnf.Holds(f, m) {
		t.Fatal(e)
	}
	f.Clauses = append(f.Clauses, c(1), c(-f.Vars))
	if _, row, e := Solve(f); e != api.ErrUnsat || len(row) != 1 {
		t.Fatal(e)
	}
	// one of each of 300 rows, at most one of each column
	g := cnf.F{Vars: 300 * 20}
	for i := range 300 {
		var l []int
		for j := range 20 {
			l = append(l, i*20+j+1)
			for k := range j {
				g.Clauses = append(g.Clauses, c(-(i*20+j+1), -(i*20+k+1)))
			}
		}
		g.Clauses = append(g.Clauses, l)
	}
	check(t, g)
}

// P17.2
func TestUnder(t *testing.T) {
	f := formula(3, c(1, 2), c(-1, 3))
	if m, row, e := Under(f, c(-2)); e != api.OK || row != nil || !slices.Equal(m, []bool{true, false, true}) {
		t.Fatal(m, row, e)
	}
	m, row, e := Under(f, c(1, -3))
	if e != api.ErrUnsat || m != nil || !refutes(formula(3, c(1, 2), c(-1, 3), c(1), c(-3)), row) {
		t.Fatal(m, row, e)
	}
	if _, _, e := Under(f, c(1, -1)); e != api.ErrUnsat {
		t.Fatal(e)
	}
	for _, lits := range [][]int{c(0), c(4), c(1, -4), c(math.MinInt), c(math.MaxInt)} {
		if m, row, e := Under(f, lits); m != nil || row != nil || e != api.ErrArg {
			t.Error(lits, e)
		}
	}
	if _, _, e := Under(formula(api.MaxVars+1), c(0)); e != api.ErrLarge {
		t.Error(e)
	}
	if _, _, e := Under(formula(1, c(2)), c(1)); e != api.ErrArg {
		t.Error(e)
	}
	long := make([]int, api.MaxLits)
	for i := range long {
		long[i] = 1
	}
	if _, _, e := Under(formula(1, long), nil); e != api.OK {
		t.Error(e)
	}
	if _, _, e := Under(formula(1, long), c(1)); e != api.ErrLarge {
		t.Error(e)
	}
	if _, _, e := Under(formula(1, long), c(2)); e != api.ErrArg {
		t.Error(e)
	}
	m1, _, _ := Solve(formula(3, c(1, 2), c(-1, 3), c(-2)))
	m2, _, _ := Under(f, c(-2))
	if !slices.Equal(m1, m2) {
		t.Error("not as Solve")
	}
}

// P17.3
func TestReadOnly(t *testing.T) {
	clauses := make([][]int, 2, 4)
	clauses[0], clauses[1] = c(3, 1, 2), c(-3, -1)
	f := cnf.F{Vars: 3, Clauses: clauses}
	Under(f, c(1))
	m, _, _ := Solve(f)
	if clauses[:3][2] != nil || !slices.Equal(clauses[0], c(3, 1, 2)) || !slices.Equal(clauses[1], c(-3, -1)) {
		t.Fatal("changed")
	}
	m[0] = !m[0]
	if again, _, _ := Solve(f); slices.Equal(again, m) {
		t.Fatal("shared")
	}
}
