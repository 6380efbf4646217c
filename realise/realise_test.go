package realise

import (
	"slices"
	"strconv"
	"strings"
	"testing"

	"tithebarn/api"
	"tithebarn/cas"
	"tithebarn/catalogue"
	"tithebarn/disk"
	"tithebarn/drv"
	"tithebarn/files"
	"tithebarn/kv"
	"tithebarn/naming"
	"tithebarn/refdb"
)

type place struct {
	d *disk.Disk
	b *refdb.Base
	s *cas.Store
}

func open(t *testing.T, d *disk.Disk) place {
	t.Helper()
	x, e := kv.Open(d)
	b, e2 := refdb.Open(x)
	s, e3 := cas.Open(d)
	if e != api.OK || e2 != api.OK || e3 != api.OK {
		t.Fatal(e, e2, e3)
	}
	return place{d, b, s}
}

func fresh(t *testing.T) place { return open(t, disk.New(1<<23)) }

// build builds a derivation that may be.
func (p place) build(t *testing.T, name, recipe string, inputs ...string) string {
	t.Helper()
	slices.Sort(inputs)
	o, _, e := Build(p.b, p.s, api.Drv{Name: name, Inputs: inputs, Recipe: recipe}, 10000)
	if e != api.OK {
		t.Fatalf("%s: %d", name, e)
	}
	return o
}

func parse(t *testing.T, s string) []api.Variant {
	t.Helper()
	l, _, e := catalogue.Parse(s)
	if e != api.OK {
		t.Fatal(e)
	}
	return l
}

const hello = "file \"a\" = \"hi\""

// tells is a recipe whose tree tells of all inputs.
const tells = "for i = 0 to count() - 1\nfile str(i) = input(i)\nend"

// The document's example, P25.1, P25.2
func TestBuild(t *testing.T) {
	p := fresh(t)
	d := api.Drv{Name: "hello", Recipe: hello}
	if o, ok := Known(p.b, d); o != "" || ok {
		t.Fatal("known ahead")
	}
	o, left, e := Build(p.b, p.s, d, 100)
	if e != api.OK || left != 97 || !strings.HasSuffix(o, "-hello") {
		t.Fatal(o, left, e)
	}
	n, e := p.s.Get(o)
	if e != api.OK || !files.Same(n, api.Node{Kind: api.Dir, Entries: []api.Entry{{Name: "a", Node: api.Node{Kind: api.File, Data: "hi"}}}}) {
		t.Fatal(n, e)
	}
	bytes, _ := drv.Put(d)
	if by, ok := p.b.Deriver(o); !ok || by != string(bytes) || p.b.Refs(o) != nil {
		t.Fatal(by)
	}
	if k, ok := Known(p.b, d); k != o || !ok {
		t.Fatal(k)
	}
	steps := p.d.Steps()
	if again, left, e := Build(p.b, p.s, d, -3); again != o || left != -3 || e != api.OK || p.d.Steps() != steps {
		t.Fatal("built again", left, e)
	}
	// one that is not whole is built again
	p.d.Cut("o."+o, 3)
	if again, left, e := Build(p.b, p.s, d, 100); again != o || left != 97 || e != api.OK || p.s.Check(o) != api.OK {
		t.Fatal("spoilt", left, e)
	}
	// several of one deriver: the first one, rising
	p.b.Register(strings.Repeat("z", 32)+"-last", "two", nil)
	for _, name := range []string{"0", "1"} {
		p.b.Register(strings.Repeat(name, 32)+"-x", string(bytes), nil)
	}
	if k, ok := Known(p.b, d); k != strings.Repeat("0", 32)+"-x" || !ok {
		t.Fatal(k)
	}
	if _, ok := Known(p.b, api.Drv{}); ok {
		t.Fatal("one that is not right")
	}
	if _, ok := Known(nil, d); ok {
		t.Fatal("of nil")
	}
}

// P25.2: what an object refers to
func TestRefs(t *testing.T) {
	p := fresh(t)
	a := p.build(t, "a", hello)
	b := p.build(t, "b", tells, a)
	c := p.build(t, "c", "file \"x\" = \"see \" .. read(input(0), \"0\")", b)
	d := p.build(t, "d", "file \"x\" = \"nothing\"", a, b)
	e := p.build(t, "e", "dir cut(input(0), 0, 32)\nfile \"zz\" = \""+a+"\"", c)
	for o, want := range map[string][]string{a: nil, b: {a}, c: {a}, d: nil, e: {a, c}} {
		slices.Sort(want)
		if l := p.b.Refs(o); !slices.Equal(l, want) {
			t.Errorf("%s: %q, want %q", o, l, want)
		}
	}
}

// P25.2: errors
func TestErrors(t *testing.T) {
	p := fresh(t)
	a := p.build(t, "a", hello)
	none := strings.Repeat("0", 32) + "-none"
	long := strings.Repeat("#", refdb.MaxDeriver)
	d := api.Drv{Name: "x", Inputs: []string{a}, Recipe: "let a = 1"}
	objects, steps := p.b.Objects(), p.d.Steps()
	for i, x := range []struct {
		d    api.Drv
		fuel int
		left int
		want api.Errno
	}{
		{api.Drv{Name: ".x", Inputs: []string{none}, Recipe: long}, 7, 7, api.ErrArg},
		{api.Drv{Name: "x", Inputs: []string{none}, Recipe: long}, 7, 7, api.ErrLimit},
		{api.Drv{Name: "x", Recipe: long[:refdb.MaxDeriver-4-5-2-4+1]}, 7, 7, api.ErrLimit},
		{api.Drv{Name: "x", Inputs: []string{none}, Recipe: "junk"}, -7, -7, api.ErrNone},
		{api.Drv{Name: "x", Recipe: "junk"}, 7, 7, api.ErrRecipe},
		{api.Drv{Name: "x", Recipe: "fail 1"}, 7, 5, api.ErrFault},
		{d, 1, 0, api.ErrFuel},
	} {
		if o, left, e := Build(p.b, p.s, x.d, x.fuel); o != "" || left != x.left || e != x.want {
			t.Errorf("%d: %q, %d, %d", i, o, left, e)
		}
	}
	q := fresh(t)
	if _, left, e := Build(q.b, q.s, api.Drv{Name: "x", Recipe: long[:refdb.MaxDeriver-4-5-2-4]}, 7); left != 7 || e != api.OK {
		t.Error("the longest deriver", e)
	}
	if o, left, e := Build(nil, p.s, d, 7); o != "" || left != 7 || e != api.ErrNil {
		t.Error(e)
	}
	if o, left, e := Build(p.b, nil, d, 7); o != "" || left != 7 || e != api.ErrNil {
		t.Error(e)
	}
	if !slices.Equal(p.b.Objects(), objects) || p.d.Steps() != steps {
		t.Error("an error changes something")
	}
	// an input that is not whole, or gone; no room; the power
	p.d.Cut("o."+a, 3)
	if o, left, e := Build(p.b, p.s, d, 7); o != "" || left != 7 || e != api.ErrHash {
		t.Error(left, e)
	}
	p.s.Drop(a)
	if o, left, e := Build(p.b, p.s, d, 7); o != "" || left != 7 || e != api.ErrNone {
		t.Error(left, e)
	}
	p.build(t, "a", hello)
	p.d.Append("other", make([]byte, 1<<23-p.d.Used()))
	if o, left, e := Build(p.b, p.s, d, 7); o != "" || left != 5 || e != api.ErrFull {
		t.Error(left, e)
	}
	p.d.Remove("other")
	p.d.Fail(3)
	if o, left, e := Build(p.b, p.s, d, 7); o != "" || left != 5 || e != api.ErrDisk {
		t.Error(left, e)
	}
	if !slices.Equal(p.b.Objects(), objects) {
		t.Error("an error changes something")
	}
	// more than 400 references
	p = fresh(t)
	var deep []string
	for i := range 7 {
		var l []string
		for j := range 60 {
			l = append(l, p.build(t, "n"+strconv.Itoa(i*60+j), "file \"n\" = \""+strconv.Itoa(i*60+j)+"\""))
		}
		deep = append(deep, p.build(t, "g"+strconv.Itoa(i), tells, l...))
	}
	all := "for i = 0 to count() - 1\nfor j = 0 to list(input(i), \"\") - 1\nlet e = entry(input(i), \"\", j)\nfile str(i) .. \".\" .. e = read(input(i), e)\nend\nend"
	slices.Sort(deep)
	if o, _, e := Build(p.b, p.s, api.Drv{Name: "all", Inputs: deep, Recipe: all}, 100000); o != "" || e != api.ErrLimit {
		t.Error(o, e)
	}
}

// P25.3
func TestPlan(t *testing.T) {
	l := parse(t, "package a 1\nneeds b >=1\nneeds c *\nneeds b *\npackage b 1\nneeds c =1\nneeds c =2\npackage c 1\npackage c 2\nneeds c *\npackage d 1\nneeds d *\nneeds a *\n")
	for i, x := range []struct {
		picks, order []int
		needs        [][]int
		want         api.Errno
	}{
		{nil, nil, nil, api.OK},
		{[]int{0, 1, 2, 4}, []int{2, 1, 0, 4}, [][]int{{1, 2}, {2}, nil, {0}}, api.OK},
		{[]int{0, 1, 2, 3}, []int{2, 3, 1, 0}, [][]int{{1, 2, 3}, {2, 3}, nil, {2}}, api.OK},
		{[]int{0, 2}, []int{2, 0}, [][]int{{2}, nil}, api.OK},
		{[]int{0}, []int{0}, [][]int{nil}, api.OK},
		{[]int{1, 0}, nil, nil, api.ErrArg},
		{[]int{0, 0}, nil, nil, api.ErrArg},
		{[]int{-1}, nil, nil, api.ErrArg},
		{[]int{0, 5}, nil, nil, api.ErrArg},
	} {
		order, needs, e := Plan(l, x.picks)
		if e != x.want || !slices.Equal(order, x.order) || !slices.EqualFunc(needs, x.needs, slices.Equal[[]int]) {
			t.Errorf("%d: %v, %v, %d", i, order, needs, e)
		}
	}
	ring := parse(t, "package a 1\nneeds b *\npackage b 1\nneeds a *\n")
	if o, n, e := Plan(ring, []int{0, 1}); o != nil || n != nil || e != api.ErrCycle {
		t.Error(e)
	}
	// a catalogue made by hand
	if o, n, e := Plan([]api.Variant{l[0], l[0]}, []int{0, 1}); o != nil || n != nil || e != api.ErrTwice {
		t.Error(e)
	}
	if _, n, e := Plan([]api.Variant{{Name: "x", Version: "1", Needs: []api.Need{{Name: "y"}}}, {Name: "y", Version: "junk"}, {Name: "y", Version: "1"}}, []int{0, 1, 2}); e != api.OK || !slices.Equal(n[0], []int{2}) {
		t.Error(n, e)
	}
}

// P25.4
func TestAll(t *testing.T) {
	p := fresh(t)
	l := parse(t, "package a 1\nneeds b *\nneeds c *\n|"+strings.ReplaceAll(tells, "\n", "\n|")+"\npackage b 1\nneeds c *\n|file \"b\" = input(0)\npackage c 1-x\n|file \"c\" = \"1\"\npackage d 1\n|fail 0\npackage e 1\n|junk\n")
	objects, left, e := All(p.b, p.s, l, []int{0, 1, 2}, 1000)
	if e != api.OK || len(objects) != 3 || !strings.HasSuffix(objects[0], "-a-1") || !strings.HasSuffix(objects[1], "-b-1") || !strings.HasSuffix(objects[2], "-c-1-x") {
		t.Fatal(objects, e)
	}
	inputs := []string{objects[1], objects[2]}
	slices.Sort(inputs)
	if k, ok := Known(p.b, api.Drv{Name: "a-1", Inputs: inputs, Recipe: tells + "\n"}); k != objects[0] || !ok {
		t.Fatal(k)
	}
	if !slices.Equal(p.b.Refs(objects[0]), inputs) || !slices.Equal(p.b.Refs(objects[1]), objects[2:]) {
		t.Fatal("refs")
	}
	used := 1000 - left
	if again, left, e := All(p.b, p.s, l, []int{0, 1, 2}, 5); e != api.OK || left != 5 || !slices.Equal(again, objects) {
		t.Fatal("again", left, e)
	}
	for fuel := range used + 1 {
		q := fresh(t)
		o, left, e := All(q.b, q.s, l, []int{0, 1, 2}, fuel)
		if fuel < used && (e != api.ErrFuel || left != 0 || o != nil) || fuel == used && (e != api.OK || left != 0) {
			t.Fatal(fuel, left, e)
		}
	}
	for i, x := range []struct {
		picks []int
		left  int
		want  api.Errno
	}{{[]int{2, 1}, 50, api.ErrArg}, {[]int{2, 3}, 48, api.ErrFault}, {[]int{1, 2, 4}, 50, api.ErrRecipe}, {nil, 50, api.OK}, {[]int{0}, 45, api.OK}} {
		if o, left, e := All(p.b, p.s, l, x.picks, 50); e != x.want || left != x.left || e != api.OK && o != nil {
			t.Errorf("%d: %v, %d, %d", i, o, left, e)
		}
	}
	if o, left, e := All(nil, p.s, nil, []int{3}, 9); o != nil || left != 9 || e != api.ErrNil {
		t.Error(e)
	}
	if o, left, e := All(p.b, nil, nil, nil, 9); o != nil || left != 9 || e != api.ErrNil {
		t.Error(e)
	}
	// two variants of one derivation: one input
	same := parse(t, "package x 1-1\npackage x-1 1\npackage y 1\nneeds x *\nneeds x-1 *\n|let a = 1\n")
	if o, _, e := All(p.b, p.s, same, []int{0, 1, 2}, 50); e != api.OK || o[0] != o[1] {
		t.Error(o, e)
	}
	if _, left, e := All(fresh(t).b, p.s, same, nil, 50); e != api.OK || left != 50 {
		t.Error(left, e)
	}
	q := fresh(t)
	if _, left, e := All(q.b, q.s, same, []int{0, 1}, 50); e != api.OK || left != 50 {
		t.Error("an empty recipe uses up fuel", left, e)
	}
	twice := parse(t, "package x 1-1\n|file \"a\" = \"\"\npackage x-1 1\n|file \"a\" = \"\"\n")
	if _, left, e := All(q.b, q.s, twice, []int{0, 1}, 50); e != api.OK || left != 47 {
		t.Error("what was just built is built again", left, e)
	}
	// more inputs, of names that do not rise as the picks do
	many := "package z 1\nneeds p0 *\nneeds p3 *\nneeds p1 *\nneeds p4 *\nneeds p2 *\n|file \"n\" = str(count())\n"
	for i := range 5 {
		many += "package p" + strconv.Itoa(i) + " 1\n|file \"p\" = \"" + strconv.Itoa(i) + "\"\n"
	}
	if o, _, e := All(q.b, q.s, parse(t, many), []int{0, 1, 2, 3, 4, 5}, 500); e != api.OK || slices.IsSorted(o[1:]) {
		t.Error(o, e)
	}
	long := []api.Variant{{Name: strings.Repeat("n", 60), Version: "1"}}
	if _, _, e := All(p.b, p.s, long, []int{0}, 50); e != api.ErrArg {
		t.Error(e)
	}
}

// P25.5
func TestReadOnly(t *testing.T) {
	p := fresh(t)
	a, b := p.build(t, "a", hello), p.build(t, "b", hello)
	inputs := []string{a, b}
	slices.Sort(inputs)
	was := slices.Clone(inputs)
	Build(p.b, p.s, api.Drv{Name: "x", Inputs: inputs, Recipe: tells}, 100)
	l := parse(t, "package a 1\nneeds b *\npackage b 1\n")
	picks := []int{0, 1}
	order, rows, _ := Plan(l, picks)
	order[0], rows[0][0] = 9, 9
	All(p.b, p.s, l, picks, 100)
	if !slices.Equal(inputs, was) || !slices.Equal(picks, []int{0, 1}) || !catalogue.Same(l, parse(t, "package a 1\nneeds b *\npackage b 1\n")) {
		t.Fatal("changed")
	}
}

// P25.6: wherever the power goes, what is valid is whole.
func TestFollows(t *testing.T) {
	l := parse(t, "package a 1\nneeds b *\nneeds c *\n|"+strings.ReplaceAll(tells, "\n", "\n|")+"\npackage b 1\nneeds c *\n|file \"b\" = input(0)\npackage c 1\n|file \"c\" = \"1\"\n")
	p := fresh(t)
	want, _, _ := All(p.b, p.s, l, []int{0, 1, 2}, 1000)
	for fail := range 20 {
		for _, keep := range []int{0, 3, 50, 1000} {
			p := fresh(t)
			p.d.Fail(fail)
			objects, _, e := All(p.b, p.s, l, []int{0, 1, 2}, 1000)
			if e != api.OK && (e != api.ErrDisk || objects != nil) {
				t.Fatal(e)
			}
			p.d.Crash()
			p.d.On([]int{keep, keep, keep, keep})
			p = open(t, p.d)
			for _, o := range p.b.Objects() {
				if p.s.Check(o) != api.OK || !slices.Contains(want, o) {
					t.Fatal(o)
				}
				for _, r := range p.b.Refs(o) {
					if !p.b.Valid(r) {
						t.Fatal(r)
					}
				}
				if head, _, e := naming.Parse(o); e != api.OK || head == "" {
					t.Fatal(o)
				}
			}
			if again, _, e := All(p.b, p.s, l, []int{0, 1, 2}, 1000); e != api.OK || !slices.Equal(again, want) {
				t.Fatal("another object", e)
			}
		}
	}
}
