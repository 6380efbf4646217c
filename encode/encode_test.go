package encode

import (
	"math"
	"math/rand"
	"reflect"
	"slices"
	"strconv"
	"strings"
	"testing"

	"tithebarn/api"
	"tithebarn/catalogue"
	"tithebarn/cnf"
)

const example = "package a 1\nneeds b *\npackage b 1\npackage b 2\nconflicts a =1\npackage c 1\n"

func parse(t *testing.T, s string) []api.Variant {
	t.Helper()
	l, _, e := catalogue.Parse(s)
	if e != api.OK {
		t.Fatalf("%q: %d", s, e)
	}
	return l
}

func wants(t *testing.T, s string) []api.Need {
	t.Helper()
	if s == "" {
		return nil
	}
	l, e := catalogue.Wants(s)
	if e != api.OK {
		t.Fatalf("%q: %d", s, e)
	}
	return l
}

func c(l ...int) []int { return l }

func same(a, b [][]int) bool { return slices.EqualFunc(a, b, slices.Equal[[]int]) }

// P19.1
func TestEncode(t *testing.T) {
	for _, x := range []struct {
		text, wants string
		want        [][]int
	}{
		{example, "a", [][]int{c(1), c(-1, 2, 3), c(-3, -1), c(-2, -3)}},
		{example, "d", [][]int{nil, c(-1, 2, 3), c(-3, -1), c(-2, -3)}},
		{example, "", [][]int{c(-1, 2, 3), c(-3, -1), c(-2, -3)}},
		{example, "b b@=2 b", [][]int{c(2, 3), c(3), c(2, 3), c(-1, 2, 3), c(-3, -1), c(-2, -3)}},
		{"package a 1\nneeds a *\nneeds z *\nconflicts a *\npackage a 2\npackage b 1\nconflicts a *\nconflicts b *\npackage a 3", "", [][]int{c(-1, 1, 2, 4), c(-1), c(-1, -2), c(-1, -4), c(-3, -1), c(-3, -2), c(-3, -4), c(-1, -2), c(-1, -4), c(-2, -4)}},
	} {
		f, e := Encode(parse(t, x.text), wants(t, x.wants))
		if e != api.OK || !same(f.Clauses, x.want) || f.Vars != strings.Count(x.text, "package") {
			t.Errorf("%q: %v, %d", x.wants, f, e)
		}
	}
	if f, e := Encode(nil, nil); e != api.OK || f.Vars != 0 || f.Clauses != nil {
		t.Error("of nothing")
	}
}

// many makes n variants of one name.
func many(n int) []api.Variant {
	var l []api.Variant
	for i := range n {
		l = append(l, api.Variant{Name: "a", Version: strconv.Itoa(i)})
	}
	return l
}

// P19.1: errors
func TestErrors(t *testing.T) {
	any := api.Range{{{}}}
	bad := []api.Need{{Name: "a"}}
	lots := make([]api.Need, 65)
	long := make([]api.Bound, 16)
	for i := range long {
		long[i] = api.Bound{Op: api.Ne, Version: strings.Repeat("999999999.", 7) + "999999999-aaaaaaaaaaaaaaaa"}
	}
	wide := make([]api.Need, 64)
	for i := range lots {
		lots[i] = api.Need{Name: "a", Range: any}
	}
	for i := range wide {
		wide[i] = api.Need{Name: "a", Range: slices.Repeat(api.Range{long}, 16)}
	}
	l := parse(t, example)
	for i, x := range []struct {
		l    []api.Variant
		w    []api.Need
		want api.Errno
	}{
		{[]api.Variant{{}}, bad, api.ErrArg},
		{many(2001), bad, api.ErrLimit},
		{append(many(3), many(1)...), bad, api.ErrTwice},
		{many(2000), bad, api.ErrArg},
		{many(2000), nil, api.ErrLarge},
		{l, lots, api.ErrArg},
		{l, bad, api.ErrArg},
		{l, append(lots[:3:3], api.Need{Name: ".", Range: any}), api.ErrArg},
		{l, lots[:64], api.OK},
		{l, wide, api.OK},
	} {
		f, e := Encode(x.l, x.w)
		if e != x.want || e != api.OK && (f.Vars != 0 || f.Clauses != nil) {
			t.Errorf("%d: %d", i, e)
		}
		if x.want != api.OK && Satisfies(x.l, x.w, nil) != (x.want == api.ErrLarge) {
			t.Errorf("%d: satisfies", i)
		}
	}
	// just so many literals as may be, and more: 1000 of one name have 999000
	if f, e := Encode(many(1000), lots[:1]); e != api.OK || cnf.Count(f) != 1000000 {
		t.Error("the most", e)
	}
	if _, e := Encode(many(1000), lots[:2]); e != api.ErrLarge {
		t.Error("one too many", e)
	}
	l = many(1000)
	l[0].Conflicts = lots[:1]
	if _, e := Encode(l, nil); e != api.ErrLarge {
		t.Error("conflicts", e)
	}
	l[0].Conflicts, l[0].Needs = nil, lots[:1]
	if _, e := Encode(l, nil); e != api.ErrLarge {
		t.Error("needs", e)
	}
}

// P19.2
func TestDecode(t *testing.T) {
	l := parse(t, example)
	if p, e := Decode(l, []bool{true, false, false, true}); e != api.OK || !slices.Equal(p, c(0, 3)) {
		t.Error(p, e)
	}
	if p, e := Decode(nil, nil); e != api.OK || p != nil {
		t.Error(p, e)
	}
	for _, m := range [][]bool{nil, {true}, make([]bool, 5)} {
		if p, e := Decode(l, m); e != api.ErrArg || p != nil {
			t.Error(p, e)
		}
	}
}

// P19.3
func TestSatisfies(t *testing.T) {
	l := parse(t, example)
	for _, x := range []struct {
		wants string
		picks []int
		want  bool
	}{
		{"a", c(0, 1), true}, {"a", c(0, 2), false}, {"a", c(0), false}, {"a", c(0, 1, 3), true},
		{"", nil, true}, {"", c(3), true}, {"c", nil, false}, {"b", c(1, 2), false}, {"a", c(1, 0), false},
		{"c", c(3, 3), false}, {"c", c(-1, 3), false}, {"c", c(3, 4), false}, {"c", c(3, math.MaxInt), false}, {"c", c(math.MinInt, 3), false},
		{"b@=2 b", c(2), true}, {"b@=1 b@=2", c(1), false}, {"d", c(3), false},
	} {
		if Satisfies(l, wants(t, x.wants), x.picks) != x.want {
			t.Errorf("%q %v", x.wants, x.picks)
		}
	}
	// a variant may allow its own needs, and does not bar itself
	l = parse(t, "package a 1\nneeds a *\nconflicts a *\npackage b 1\nconflicts a *\n")
	if !Satisfies(l, wants(t, "a"), c(0)) || Satisfies(l, wants(t, "a"), c(0, 1)) {
		t.Error("itself")
	}
}

// P19.4
func TestReadOnly(t *testing.T) {
	l, w := parse(t, example), wants(t, "b a")
	f, _ := Encode(l, w)
	f.Clauses[0][0] = 77
	Satisfies(l, w, c(0, 1))
	if !catalogue.Same(l, parse(t, example)) || !reflect.DeepEqual(w, wants(t, "b a")) {
		t.Fatal("changed")
	}
	if g, _ := Encode(l, w); g.Clauses[0][0] != 2 {
		t.Fatal("shared")
	}
}

// P19.5
func TestFollows(t *testing.T) {
	r := rand.New(rand.NewSource(19))
	ranges := []string{"*", "=1", ">=2", "<2|=3", "!=2"}
	for range 300 {
		var b strings.Builder
		for name := range 3 {
			for v := range 1 + r.Intn(3) {
				b.WriteString("package " + string(rune('a'+name)) + " " + strconv.Itoa(v+1) + "\n")
				for range r.Intn(3) {
					b.WriteString([]string{"needs ", "conflicts "}[r.Intn(2)] + string(rune('a'+r.Intn(4))) + " " + ranges[r.Intn(5)] + "\n")
				}
			}
		}
		l := parse(t, b.String())
		w := wants(t, string(rune('a'+r.Intn(3)))+"@"+ranges[r.Intn(5)]+" "+string(rune('a'+r.Intn(3))))
		f, e := Encode(l, w)
		if e != api.OK {
			t.Fatal(e)
		}
		for m := range 1 << len(l) {
			model := make([]bool, len(l))
			for i := range model {
				model[i] = m>>i&1 == 1
			}
			picks, _ := Decode(l, model)
			if cnf.Holds(f, model) != Satisfies(l, w, picks) {
				t.Fatalf("%s%v %v", b.String(), w, picks)
			}
		}
	}
}
