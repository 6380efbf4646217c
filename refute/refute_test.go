package refute

import (
	"math"
	"math/rand"
	"reflect"
	"slices"
	"strings"
	"testing"

	"tithebarn/api"
	"tithebarn/cnf"
	"tithebarn/sat"
)

func c(l ...int) []int { return append([]int{}, l...) }

func row(l ...[]int) [][]int { return l }

func formula(vars int, l ...[]int) cnf.F { return cnf.F{Vars: vars, Clauses: l} }

var square = formula(2, c(1, 2), c(1, -2), c(-1, 2), c(-1, -2))

// slow is Check by the document's words, of a formula that may be.
func slow(f cnf.F, row [][]int) (int, api.Errno) {
	all := cnf.F{Vars: f.Vars, Clauses: slices.Clone(f.Clauses)}
	for i, clause := range row {
		var lits []int
		for _, lit := range clause {
			lits = append(lits, -lit)
		}
		if cnf.Check(formula(f.Vars, clause)) != api.OK {
			return i, api.ErrRow
		}
		if _, clash := cnf.Unit(all, lits); !clash {
			return i, api.ErrRow
		}
		all.Clauses = append(all.Clauses, clause)
	}
	if len(row) == 0 || len(row[len(row)-1]) > 0 {
		return len(row), api.ErrRow
	}
	return len(row), api.OK
}

// slowTrim is Trim by the document's words, of a refutation.
func slowTrim(f cnf.F, row [][]int) [][]int {
	left := slices.Clone(row)
	for i := len(row) - 2; i >= 0; i-- {
		without := slices.Delete(slices.Clone(left), i, i+1)
		if _, e := slow(f, without); e == api.OK {
			left = without
		}
	}
	return left
}

func random(r *rand.Rand, vars, clauses, size int) cnf.F {
	f := cnf.F{Vars: vars}
	for range clauses {
		var l []int
		for range size {
			l = append(l, (1+r.Intn(vars))*(1-2*r.Intn(2)))
		}
		f.Clauses = append(f.Clauses, l)
	}
	return f
}

// P18.1
func TestCheck(t *testing.T) {
	for i, x := range []struct {
		f    cnf.F
		row  [][]int
		n    int
		want api.Errno
	}{
		{square, row(c(1), c()), 2, api.OK},
		{square, row(c()), 0, api.ErrRow},
		{square, nil, 0, api.ErrRow},
		{square, row(c(1)), 1, api.ErrRow},
		{square, row(c(1), c(), c(2)), 3, api.ErrRow},
		{square, row(c(1), c(), c(2), c()), 4, api.OK},
		{square, row(c(1), c(3), c()), 1, api.ErrRow},
		{square, row(c(0)), 0, api.ErrRow},
		{square, row(c(1), c(math.MinInt)), 1, api.ErrRow},
		{square, row(c(1, 1, 1), c(2, -2), c(-2, 1, 1), c()), 4, api.OK},
		{formula(2, c(1)), row(c(2, -2), c(2)), 1, api.ErrRow},
		{formula(1, c(1), c(-1)), row(c()), 1, api.OK},
		{formula(1, c()), row(c(1), c()), 2, api.OK},
		{formula(1, c(1, -1)), row(c(1, -1), c()), 1, api.ErrRow},
		{formula(0), row(c()), 0, api.ErrRow},
		{formula(api.MaxVars + 1), row(c()), 0, api.ErrLarge},
		{formula(1, c(2)), row(c()), 0, api.ErrArg},
	} {
		if n, e := Check(x.f, x.row); n != x.n || e != x.want {
			t.Errorf("%d: %d, %d", i, n, e)
		}
	}
	long := make([]int, api.MaxLits+1)
	for i := range long {
		long[i] = 1
	}
	if n, e := Check(square, row(long, c())); n != 2 || e != api.OK {
		t.Error("a long clause", n, e)
	}
}

// P18.1, P18.2, P18.6: by the words
func TestFollows(t *testing.T) {
	r := rand.New(rand.NewSource(18))
	refuted := 0
	for i := range 1500 {
		vars := 2 + r.Intn(5)
		f := random(r, vars, 2+r.Intn(6*vars), 1+i%3)
		_, proof, e := sat.Solve(f)
		if e == api.ErrUnsat {
			refuted++
			// clauses that are of no use, here and there
			for range r.Intn(4) {
				x := random(r, vars, 1, 1+r.Intn(3)).Clauses[0]
				proof = slices.Insert(proof, r.Intn(len(proof)), x)
			}
		} else {
			proof = append(random(r, vars, r.Intn(4), 2).Clauses, c())
		}
		n, e1 := Check(f, proof)
		m, e2 := slow(f, proof)
		if n != m || e1 != e2 {
			t.Fatalf("%v %v: %d, %d; want %d, %d", f, proof, n, e1, m, e2)
		}
		left, e3 := Trim(f, proof)
		if e3 != e1 || e3 != api.OK && left != nil {
			t.Fatal(e3)
		}
		if e3 == api.OK {
			if want := slowTrim(f, proof); !reflect.DeepEqual(left, want) {
				t.Fatalf("%v %v: %v; want %v", f, proof, left, want)
			}
			if again, _ := Trim(f, left); !reflect.DeepEqual(again, left) {
				t.Fatal("not its own Trim")
			}
		}
	}
	if refuted < 300 {
		t.Fatal(refuted)
	}
}

// P18.2
func TestTrim(t *testing.T) {
	left, e := Trim(square, row(c(2, 1, 2), c(1), c(1, 2), c(-2), c(2), c(), c()))
	if e != api.OK || !reflect.DeepEqual(left, row(c(1), c())) {
		t.Fatal(left, e)
	}
	for i, x := range []struct {
		f    cnf.F
		row  [][]int
		want api.Errno
	}{{square, row(c()), api.ErrRow}, {square, nil, api.ErrRow}, {square, row(c(1)), api.ErrRow}, {formula(-1), nil, api.ErrArg}, {formula(api.MaxVars + 1), nil, api.ErrLarge}} {
		if l, e := Trim(x.f, x.row); l != nil || e != x.want {
			t.Errorf("%d: %d", i, e)
		}
	}
	// a large one: 8 pigeons in 7 holes
	f := cnf.F{Vars: 56}
	for p := range 8 {
		var l []int
		for h := range 7 {
			l = append(l, p*7+h+1)
			for q := range p {
				f.Clauses = append(f.Clauses, c(-(p*7+h+1), -(q*7+h+1)))
			}
		}
		f.Clauses = append(f.Clauses, l)
	}
	_, proof, _ := sat.Solve(f)
	left, e = Trim(f, proof)
	if n, e2 := Check(f, left); e != api.OK || e2 != api.OK || n > len(proof) {
		t.Fatal(e, e2)
	}
}

// P18.3, P18.4, P18.6
func TestText(t *testing.T) {
	for s, want := range map[string][][]int{"1 -2 0\n0\n": row(c(1, -2), c()), "": nil, "0\n0\n": row(c(), c()), "100000 -100000 1 1 0\n": row(c(100000, -100000, 1, 1)), "99999 -10 9 0\n": row(c(99999, -10, 9))} {
		if p, e := Print(want); p != s || e != api.OK {
			t.Errorf("%q: %q, %d", s, p, e)
		}
		l, e := Parse(s)
		if e != api.OK || !slices.EqualFunc(l, want, slices.Equal[[]int]) {
			t.Errorf("%q: %v, %d", s, l, e)
		}
	}
	for _, l := range [][][]int{row(c(0)), row(c(1), c(1, 0)), row(c(100001)), row(c(-100001)), row(c(math.MinInt)), row(c(math.MaxInt))} {
		if s, e := Print(l); s != "" || e != api.ErrArg {
			t.Error(l, e)
		}
	}
	for _, s := range []string{"0", "1 2\n", "01 0\n", "-0 0\n", "0 0\n", "1 0\n\n", "\n", " 0\n", "1  0\n", "1 0 \n", "1 0\n0", "10\n", "1 -0\n", "+1 0\n", "100001 0\n", "-100001 0\n", "1000000 0\n", "99999999999999999999 0\n", "- 0\n", "--1 0\n", "a 0\n", "1\t0\n", "1 0\r\n", "1 00\n", "1 0\n2"} {
		if l, e := Parse(s); l != nil || e != api.ErrArg {
			t.Errorf("%q: %v, %d", s, l, e)
		}
	}
	r := rand.New(rand.NewSource(1))
	for range 300 {
		b := make([]byte, r.Intn(12))
		for i := range b {
			b[i] = "0012-- \n\n"[r.Intn(9)]
		}
		if l, e := Parse(string(b)); e == api.OK {
			if s, e := Print(l); s != string(b) || e != api.OK {
				t.Fatalf("%q: %q", b, s)
			}
		}
	}
	if s, _ := Print(slices.Repeat(row(c(1)), 1000)); strings.Count(s, "\n") != 1000 {
		t.Error("many")
	}
}

// P18.5
func TestReadOnly(t *testing.T) {
	proof := row(c(2, 1, 2), c(1), c())
	f := formula(2, c(2, 1), c(1, -2), c(-1, 2), c(-1, -2))
	Check(f, proof)
	left, _ := Trim(f, proof)
	left[0][0] = 9
	if !reflect.DeepEqual(proof, row(c(2, 1, 2), c(1), c())) || !reflect.DeepEqual(f.Clauses[0], c(2, 1)) {
		t.Fatal("changed")
	}
}
