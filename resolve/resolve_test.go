package resolve

import (
	"math/rand"
	"reflect"
	"slices"
	"strconv"
	"strings"
	"testing"

	"tithebarn/api"
	"tithebarn/catalogue"
	"tithebarn/encode"
	"tithebarn/refute"
)

const example = "package a 1\nneeds b *\npackage b 1\npackage b 2\nconflicts a =1\npackage c 1\n"

func parse(t *testing.T, s string) []api.Variant {
	t.Helper()
	l, _, e := catalogue.Parse(s)
	if e != api.OK {
		t.Fatalf("%q: %d", s, e)
	}
	return l
}

func wants(t *testing.T, s string) []api.Need {
	t.Helper()
	if s == "" {
		return nil
	}
	l, e := catalogue.Wants(s)
	if e != api.OK {
		t.Fatalf("%q: %d", s, e)
	}
	return l
}

func c(l ...int) []int { return l }

// P20.1 and the document's examples
func TestResolve(t *testing.T) {
	l := parse(t, example)
	for w, want := range map[string][]int{"a": c(0, 1), "c c": c(3), "": nil, "a c": c(0, 1, 3), "b@=2": c(2), "c b@>1": c(2, 3)} {
		if p, e := Resolve(l, wants(t, w)); e != api.OK || !slices.Equal(p, want) {
			t.Errorf("%q: %v, %d", w, p, e)
		}
	}
	for _, w := range []string{"a b@=2", "d", "b@=1 b@=2", "b@=3", "c d"} {
		if p, e := Resolve(l, wants(t, w)); e != api.ErrUnsat || p != nil {
			t.Errorf("%q: %v, %d", w, p, e)
		}
	}
}

// P20.1 to P20.3: errors
func TestErrors(t *testing.T) {
	var many []api.Variant
	for i := range 2001 {
		many = append(many, api.Variant{Name: "a", Version: strconv.Itoa(i)})
	}
	bad := []api.Need{{}}
	for i, x := range []struct {
		l    []api.Variant
		w    []api.Need
		want api.Errno
	}{{many, bad, api.ErrLimit}, {many[:2000], bad, api.ErrArg}, {many[:2000], nil, api.ErrLarge}, {[]api.Variant{many[0], many[0]}, nil, api.ErrTwice}, {[]api.Variant{{}}, nil, api.ErrArg}} {
		if p, e := Resolve(x.l, x.w); p != nil || e != x.want {
			t.Errorf("%d: Resolve %d", i, e)
		}
		if p, e := Prune(x.l, x.w, c(-1)); p != nil || e != x.want {
			t.Errorf("%d: Prune %d", i, e)
		}
		if r, e := Why(x.l, x.w); r != nil || e != x.want {
			t.Errorf("%d: Why %d", i, e)
		}
	}
}

// P20.2
func TestPrune(t *testing.T) {
	l := parse(t, example)
	for _, x := range []struct {
		wants       string
		picks, want []int
	}{{"a", c(0, 1, 3), c(0, 1)}, {"a", c(0, 1), c(0, 1)}, {"c", c(0, 1, 3), c(3)}, {"", c(0, 1, 3), nil}, {"b", c(0, 1), c(1)}} {
		p, e := Prune(l, wants(t, x.wants), x.picks)
		if e != api.OK || !slices.Equal(p, x.want) {
			t.Errorf("%q %v: %v, %d", x.wants, x.picks, p, e)
		}
	}
	for _, picks := range [][]int{nil, c(0), c(0, 2), c(1, 0), c(-1, 0, 1), c(0, 1, 9)} {
		if p, e := Prune(l, wants(t, "a"), picks); p != nil || e != api.ErrArg {
			t.Errorf("%v: %v, %d", picks, p, e)
		}
	}
	// a ring of needs, and a long chain
	l = parse(t, "package a 1\nneeds b *\npackage b 1\nneeds a *\npackage c 1\nneeds a *\n")
	if p, e := Prune(l, wants(t, "b"), c(0, 1, 2)); e != api.OK || !slices.Equal(p, c(0, 1)) {
		t.Error(p, e)
	}
	var b strings.Builder
	for i := range 2000 {
		b.WriteString("package p" + strconv.Itoa(i) + " 1\nneeds p" + strconv.Itoa((i+1)%2000) + " *\n")
	}
	if p, e := Resolve(parse(t, b.String()), wants(t, "p7")); e != api.OK || len(p) != 2000 {
		t.Error("a chain", e)
	}
}

// P20.3
func TestWhy(t *testing.T) {
	l := parse(t, example)
	for _, w := range []string{"a", "", "c"} {
		if r, e := Why(l, wants(t, w)); r != nil || e != api.ErrState {
			t.Error(w, e)
		}
	}
	hard := "package x 1\nneeds a *\nneeds b *\n"
	for _, n := range []string{"a", "b"} {
		for v := range 4 {
			hard += "package " + n + " " + strconv.Itoa(v) + "\nneeds m =" + strconv.Itoa(v%2) + "\nneeds n =" + strconv.Itoa(v/2) + "\n"
			if n == "b" {
				hard += "conflicts a *\n"
			}
		}
	}
	hard += "package m 0\npackage m 1\npackage n 0\npackage n 1\n"
	for text, ws := range map[string][]string{example: {"a b@=2", "d", "b@=1 b@=2", "c d a"}, hard: {"x", "a@=1 b@=2", "x m"}} {
		l := parse(t, text)
		for _, w := range ws {
			r, e := Why(l, wants(t, w))
			f, _ := encode.Encode(l, wants(t, w))
			if n, e2 := refute.Check(f, r); e != api.OK || e2 != api.OK || n != len(r) {
				t.Errorf("%q: %v, %d, %d", w, r, e, e2)
			}
			if again, _ := refute.Trim(f, r); !reflect.DeepEqual(again, r) {
				t.Errorf("%q: %v can be trimmed", w, r)
			}
		}
	}
}

// P20.4
func TestReadOnly(t *testing.T) {
	l, w, picks := parse(t, example), wants(t, "c a"), c(0, 1, 3)
	a, _ := Resolve(l, w)
	p, _ := Prune(l, w, picks)
	a[0], p[0] = 9, 9
	if b, _ := Resolve(l, w); !slices.Equal(b, c(0, 1, 3)) || !slices.Equal(picks, c(0, 1, 3)) || !catalogue.Same(l, parse(t, example)) || !reflect.DeepEqual(w, wants(t, "c a")) {
		t.Fatal("shared")
	}
}

// P20.1, P20.5: against all selections
func TestFollows(t *testing.T) {
	r := rand.New(rand.NewSource(20))
	ranges := []string{"*", "=1", ">=2", "<2|=3", "!=2"}
	sat, unsat := 0, 0
	for range 400 {
		var b strings.Builder
		for name := range 4 {
			for v := range 1 + r.Intn(3) {
				b.WriteString("package " + string(rune('a'+name)) + " " + strconv.Itoa(v+1) + "\n")
				for range r.Intn(4) {
					b.WriteString([]string{"needs ", "conflicts "}[r.Intn(2)] + string(rune('a'+r.Intn(4))) + " " + ranges[r.Intn(5)] + "\n")
				}
			}
		}
		l := parse(t, b.String())
		w := wants(t, string(rune('a'+r.Intn(4)))+"@"+ranges[r.Intn(5)]+" "+string(rune('a'+r.Intn(4))))
		has := false
		for m := range 1 << len(l) {
			var picks []int
			for i := range l {
				if m>>i&1 == 1 {
					picks = append(picks, i)
				}
			}
			if !encode.Satisfies(l, w, picks) {
				continue
			}
			has = true
			p, e := Prune(l, w, picks)
			if e != api.OK || !encode.Satisfies(l, w, p) {
				t.Fatal("what Prune leaves")
			}
			if again, _ := Prune(l, w, p); !slices.Equal(again, p) {
				t.Fatal("not its own Prune")
			}
		}
		p, e := Resolve(l, w)
		if has {
			sat++
			q, e2 := Prune(l, w, p)
			if e != api.OK || e2 != api.OK || !slices.Equal(p, q) {
				t.Fatal(e, e2)
			}
		} else {
			unsat++
			if e != api.ErrUnsat || p != nil {
				t.Fatal(e)
			}
			if _, e := Why(l, w); e != api.OK {
				t.Fatal(e)
			}
		}
		if again, _ := Resolve(l, w); !slices.Equal(again, p) {
			t.Fatal("another answer")
		}
	}
	if sat < 50 || unsat < 50 {
		t.Fatal(sat, unsat)
	}
}
