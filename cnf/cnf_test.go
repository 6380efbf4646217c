package cnf

import (
	"math"
	"math/rand"
	"slices"
	"testing"

	"tithebarn/api"
)

func formula(vars int, l ...[]int) F { return F{vars, l} }

func c(l ...int) []int { return l }

// slow goes on by units by the document's words.
func slow(f F, lits []int) ([]int, bool) {
	var row []int
	set := map[int]bool{}
	add := func(lit int) {
		if !set[lit] {
			set[lit] = true
			row = append(row, lit)
		}
	}
	for _, lit := range lits {
		add(lit)
	}
	for {
		for lit := range set {
			if set[-lit] {
				return row, true
			}
		}
		found := 0
		for _, c := range f.Clauses {
			left, holds := map[int]bool{}, false
			for _, lit := range c {
				holds = holds || set[lit]
				if !set[-lit] {
					left[lit] = true
				}
			}
			if len(left) == 0 {
				return row, true
			}
			if !holds && len(left) == 1 && found == 0 {
				for lit := range left {
					found = lit
				}
			}
		}
		if found == 0 {
			return row, false
		}
		add(found)
	}
}

// P16.1
func TestCheck(t *testing.T) {
	long := make([]int, api.MaxLits)
	for i := range long {
		long[i] = 1
	}
	for i, x := range []struct {
		f    F
		want api.Errno
	}{
		{F{}, api.OK},
		{formula(0, nil, c()), api.OK},
		{formula(3, c(1, -3, 2, 2)), api.OK},
		{formula(api.MaxVars, c(api.MaxVars, -api.MaxVars)), api.OK},
		{formula(1, long), api.OK},
		{formula(api.MaxVars+1, c(0)), api.ErrLarge},
		{formula(math.MaxInt), api.ErrLarge},
		{formula(1, long, c(1)), api.ErrLarge},
		{formula(-1, long, c(1)), api.ErrLarge},
		{formula(-1), api.ErrArg},
		{formula(math.MinInt, c(1)), api.ErrArg},
		{formula(3, c(1, 0)), api.ErrArg},
		{formula(3, c(4)), api.ErrArg},
		{formula(3, c(1), c(-4)), api.ErrArg},
		{formula(3, c(math.MinInt)), api.ErrArg},
		{formula(0, c(1)), api.ErrArg},
	} {
		if e := Check(x.f); e != x.want {
			t.Errorf("%d: %d", i, e)
		}
	}
}

// P16.2
func TestNorm(t *testing.T) {
	for i, x := range []struct {
		c, want []int
		always  bool
	}{
		{c(3, 1, 3), c(1, 3), false},
		{c(1, -1), nil, true},
		{nil, nil, false},
		{c(-5, 2, -1, 2, -5), c(-1, 2, -5), false},
		{c(9, -2, 7, 2), nil, true},
		{c(1, -1, 0), nil, false},
		{c(api.MaxVars, -1), c(-1, api.MaxVars), false},
		{c(api.MaxVars + 1), nil, false},
		{c(-api.MaxVars - 1), nil, false},
		{c(math.MinInt, 1, -1), nil, false},
	} {
		if l, always := Norm(x.c); !slices.Equal(l, x.want) || always != x.always {
			t.Errorf("%d: %v, %t", i, l, always)
		}
	}
}

// P16.3
func TestHolds(t *testing.T) {
	f := formula(3, c(1, 2), c(-1, 3), c(-3, -2))
	for m := range 8 {
		a, b, d := m&1 == 1, m&2 == 2, m&4 == 4
		want := (a || b) && (!a || d) && (!d || !b)
		if Holds(f, []bool{a, b, d}) != want || Holds(f, []bool{a, b, d, true}) != want {
			t.Error(m)
		}
	}
	if Holds(f, []bool{true, false}) || Holds(f, nil) || Holds(formula(1, c(2)), []bool{true, true}) || Holds(formula(1, c()), []bool{true}) || !Holds(F{}, nil) || Holds(formula(-1), nil) {
		t.Error("what may not be")
	}
}

// P16.4
func TestUnit(t *testing.T) {
	f := formula(3, c(1, 2), c(-1, 3), c(-3, -2))
	for i, x := range []struct {
		f          F
		lits, want []int
		clash      bool
	}{
		{f, c(1), c(1, 3, -2), false},
		{f, c(-1), c(-1, 2, -3), false},
		{f, c(1, 2), c(1, 2, 3), true},
		{f, nil, nil, false},
		{f, c(3, 3), c(3, -2, 1), false},
		{f, c(1, -1, 2), c(1, -1, 2), true},
		{f, c(4), nil, true},
		{f, c(0), nil, true},
		{f, c(1, math.MinInt), nil, true},
		{formula(1, c(2)), c(1), nil, true},
		{formula(2, c(1), c()), c(2), c(2), true},
		{formula(2, c(2, 2, 2), c(-1, -1)), nil, c(2, -1), false},
		{formula(2, c(1, -1)), c(-1), c(-1), false},
		{formula(3, c(3), c(2, -3), c(1, -2), c(-1)), nil, c(3, 2, 1), true},
	} {
		if l, clash := Unit(x.f, x.lits); !slices.Equal(l, x.want) || clash != x.clash {
			t.Errorf("%d: %v, %t", i, l, clash)
		}
	}
	// a long chain, from behind
	var chain [][]int
	for i := api.MaxVars - 1; i > 0; i-- {
		chain = append(chain, c(-i, i+1))
	}
	if l, clash := Unit(F{api.MaxVars, chain}, c(1)); len(l) != api.MaxVars || clash {
		t.Error("a chain")
	}
}

// P16.4, P16.7: by the words, and against all models
func TestFollows(t *testing.T) {
	r := rand.New(rand.NewSource(16))
	for range 3000 {
		f := F{Vars: 1 + r.Intn(6)}
		lit := func() int { return (1 + r.Intn(f.Vars)) * (1 - 2*r.Intn(2)) }
		for range r.Intn(12) {
			var clause []int
			for range r.Intn(4) {
				clause = append(clause, lit())
			}
			if len(clause) > 0 || r.Intn(9) == 0 {
				f.Clauses = append(f.Clauses, clause)
			}
		}
		var lits []int
		for range r.Intn(4) {
			lits = append(lits, lit())
		}
		row, clash := Unit(f, lits)
		want, wantClash := slow(f, lits)
		if !slices.Equal(row, want) || clash != wantClash {
			t.Fatalf("%v from %v: %v, %t; want %v, %t", f, lits, row, clash, want, wantClash)
		}
		for m := range 1 << f.Vars {
			model := make([]bool, f.Vars)
			for i := range model {
				model[i] = m>>i&1 == 1
			}
			is := func(lit int) bool { return model[max(lit, -lit)-1] == (lit > 0) }
			if !Holds(f, model) || slices.ContainsFunc(lits, func(lit int) bool { return !is(lit) }) {
				continue
			}
			if clash || slices.ContainsFunc(row, func(lit int) bool { return !is(lit) }) {
				t.Fatal("what follows does not hold")
			}
		}
	}
}

// P16.5
func TestCount(t *testing.T) {
	if Count(F{}) != 0 || Count(formula(-7, c(0, 0), nil, c(9, 9, 9))) != 5 {
		t.Fatal("Count")
	}
}

// P16.6
func TestReadOnly(t *testing.T) {
	l := c(3, 1, 3, 2)
	f := formula(3, l[:3], c(2))
	lits := c(-3, -1, -1)
	Norm(l[:3])
	row, _ := Unit(f, lits[:2])
	row[0] = 9
	if !slices.Equal(l, c(3, 1, 3, 2)) || !slices.Equal(lits, c(-3, -1, -1)) {
		t.Fatal("changed")
	}
}
