package files

import (
	"slices"
	"strconv"
	"strings"
	"testing"

	"tithebarn/api"
)

func file(data string) api.Node { return api.Node{Kind: api.File, Data: data} }

func link(data string) api.Node { return api.Node{Kind: api.Link, Data: data} }

// dir makes a Dir of names and nodes by turns.
func dir(l ...any) api.Node {
	n := api.Node{Kind: api.Dir}
	for i := 0; i < len(l); i += 2 {
		n.Entries = append(n.Entries, api.Entry{Name: l[i].(string), Node: l[i+1].(api.Node)})
	}
	return n
}

// deep makes a tree of a depth.
func deep(n int) api.Node {
	x := dir()
	for range n {
		x = dir("d", x)
	}
	return x
}

// wide makes a tree of so many nodes.
func wide(n int) api.Node {
	x := dir()
	for i := range n - 1 {
		x.Entries = append(x.Entries, api.Entry{Name: strconv.Itoa(100000 + i), Node: file("")})
	}
	return x
}

func example() api.Node { return dir("a", file("hi"), "d", dir("x", link("../a"))) }

// P7.1
func TestName(t *testing.T) {
	for _, s := range []string{"a", "...", ".a", "..a", " ", "\n", "\xff", "\\", strings.Repeat("x", 255)} {
		if !Name(s) {
			t.Errorf("%q is none", s)
		}
	}
	for _, s := range []string{"", ".", "..", "a/b", "/", "a\x00", strings.Repeat("x", 256)} {
		if Name(s) {
			t.Errorf("%q is one", s)
		}
	}
}

// P7.2
func TestRight(t *testing.T) {
	exec := api.Node{Kind: api.Exec, Data: "x"}
	good := []api.Node{file(""), file(strings.Repeat("\x00", api.MaxFile)), exec, link("x"), link(strings.Repeat("/", 255)), dir(), example(), deep(32), wide(4096), {Kind: api.File, Entries: []api.Entry{}}, dir("B", file(""), "a", file(""), "ab", file(""), "b", file(""))}
	for i, n := range good {
		if !Right(n) {
			t.Errorf("good %d", i)
		}
	}
	bad := []api.Node{{}, {Kind: 5}, {Kind: 255}, file(strings.Repeat("x", api.MaxFile+1)), {Kind: api.Exec, Data: strings.Repeat("x", api.MaxFile+1)}, {Kind: api.File, Entries: dir("a", file("")).Entries}, {Kind: api.Exec, Entries: dir("a", file("")).Entries}, {Kind: api.Link, Data: "x", Entries: dir("a", file("")).Entries}, link(""), link("a\x00"), link(strings.Repeat("x", 256)), {Kind: api.Dir, Data: "x"}, dir("b", file(""), "a", file("")), dir("a", file(""), "a", file("")), dir("", file("")), dir("..", file("")), dir("a/b", file("")), dir("a", api.Node{}), deep(33), wide(4097), deep(1000000)}
	ring := dir("a", file(""))
	ring.Entries[0].Node = api.Node{Kind: api.Dir, Entries: ring.Entries}
	for i, n := range append(bad, ring) {
		if Right(n) {
			t.Errorf("bad %d", i)
		}
	}
}

// P7.3
func TestSame(t *testing.T) {
	if !Same(example(), example()) || !Same(api.Node{}, api.Node{Entries: []api.Entry{}}) || !Same(deep(300000), deep(300000)) {
		t.Fatal("not the same")
	}
	for i, n := range []api.Node{{}, dir(), dir("a", file("hi"), "d", dir("x", link("../b"))), dir("a", file("hi"), "d", dir("y", link("../a"))), dir("a", api.Node{Kind: api.Exec, Data: "hi"}, "d", dir("x", link("../a"))), dir("a", file("hi")), dir("a", file("hi"), "d", dir("x", link("../a"), "y", file("")))} {
		if Same(example(), n) || Same(n, example()) {
			t.Errorf("%d is the same", i)
		}
	}
}

// P7.4
func TestCounts(t *testing.T) {
	if n := example(); Count(n) != 4 || Depth(n) != 2 || Size(n) != 6 {
		t.Fatal("the document's example")
	}
	if n := (api.Node{}); Count(n) != 1 || Depth(n) != 0 || Size(n) != 0 {
		t.Fatal("a node of nothing")
	}
	if n := deep(1000000); Count(n) != 1000001 || Depth(n) != 1000000 {
		t.Fatal("a deep one")
	}
	n := api.Node{Kind: api.File, Data: "12", Entries: dir("x", file("345"), "x", dir("y", link("6"))).Entries}
	if Count(n) != 4 || Depth(n) != 2 || Size(n) != 6 {
		t.Fatal("one that is not right")
	}
}

// P7.5
func TestAt(t *testing.T) {
	n := example()
	for path, want := range map[string]api.Node{"": n, "a": file("hi"), "d": dir("x", link("../a")), "d/x": link("../a")} {
		if x, e := At(n, path); e != api.OK || !Same(x, want) {
			t.Errorf("%q: %v, %d", path, x, e)
		}
	}
	for path, want := range map[string]api.Errno{"d/y": api.ErrNone, "a/x": api.ErrNone, "d/x/y": api.ErrNone, "e": api.ErrNone, "/d": api.ErrArg, "d/": api.ErrArg, "d//x": api.ErrArg, "/": api.ErrArg, "e/../a": api.ErrArg, ".": api.ErrArg, "d/\x00": api.ErrArg, strings.Repeat("x", 256): api.ErrArg} {
		if x, e := At(n, path); e != want || !Same(x, api.Node{}) {
			t.Errorf("%q: %d, want %d", path, e, want)
		}
	}
	// of several entries of one name the first; a File has none
	twice := dir("b", file("1"), "a", file("2"), "b", file("3"))
	if x, _ := At(twice, "b"); x.Data != "1" {
		t.Error("not the first")
	}
	if _, e := At(api.Node{Kind: api.File, Entries: twice.Entries}, "a"); e != api.ErrNone {
		t.Error("a File's entries")
	}
}

// P7.6
func TestPut(t *testing.T) {
	n, x := example(), file("new")
	for path, want := range map[string]string{"d/y": ",a,d,d/x,d/y", "d/a": ",a,d,d/a,d/x", "a": ",a,d,d/x", "d": ",a,d", "b": ",a,b,d,d/x", "A": ",A,a,d,d/x", "e": ",a,d,d/x,e", "": ""} {
		m, e := Put(n, path, x)
		if e != api.OK || strings.Join(Paths(m), ",") != want {
			t.Errorf("%q: %d, %q", path, e, Paths(m))
		}
		if got, _ := At(m, path); !Same(got, x) {
			t.Errorf("%q: not there", path)
		}
		if !Same(n, example()) {
			t.Fatalf("%q: what was handed in is changed", path)
		}
	}
	for _, c := range []struct {
		n, x api.Node
		path string
		want api.Errno
	}{
		{n, file(strings.Repeat("x", api.MaxFile+1)), "/", api.ErrTree},
		{api.Node{}, x, "/", api.ErrTree},
		{n, api.Node{}, "a", api.ErrTree},
		{n, x, "/a", api.ErrArg},
		{n, x, "a/", api.ErrArg},
		{n, x, "zz/..", api.ErrArg},
		{n, x, "a/b", api.ErrNone},
		{n, x, "e/b", api.ErrNone},
		{n, x, "d/x/y", api.ErrNone},
		{file(""), x, "a", api.ErrNone},
		{wide(4096), x, "a", api.ErrTree},
		{deep(32), x, "d" + strings.Repeat("/d", 32), api.ErrTree},
		{n, deep(32), "d", api.ErrTree},
		{dir("a", dir()), wide(4096), "a", api.ErrTree},
	} {
		if m, e := Put(c.n, c.path, c.x); e != c.want || !Same(m, api.Node{}) {
			t.Errorf("%q: %d, want %d", c.path, e, c.want)
		}
	}
	if m, e := Put(wide(4096), "100007", x); e != api.OK || Count(m) != 4096 {
		t.Error("in the place of what was there")
	}
}

// P7.7
func TestPaths(t *testing.T) {
	if l := Paths(example()); !slices.Equal(l, []string{"", "a", "d", "d/x"}) {
		t.Fatal(l)
	}
	if l := Paths(dir("a", dir("b", dir("c", file("")), "d", file("")), "e", dir("f", file("")))); !slices.Equal(l, []string{"", "a", "a/b", "a/b/c", "a/d", "e", "e/f"}) {
		t.Fatal(l)
	}
	if Paths(deep(33)) != nil || len(Paths(deep(32))) != 33 || Paths(api.Node{}) != nil {
		t.Fatal("right or not")
	}
}

// P7.8
func TestReadOnly(t *testing.T) {
	l := make([]api.Entry, 2, 5)
	l[0] = api.Entry{Name: "a", Node: file("1")}
	l[1] = api.Entry{Name: "c", Node: file("3")}
	l[:3][2].Name = "behind"
	n := api.Node{Kind: api.Dir, Entries: l}
	for _, path := range []string{"b", "d", "c"} {
		m, _ := Put(n, path, file("x"))
		m.Entries[0].Name = "changed"
	}
	if l[:3][2].Name != "behind" || l[0].Name != "a" || l[1].Node.Data != "3" {
		t.Fatal("what was handed in is changed")
	}
}

// P7.9
func TestFollows(t *testing.T) {
	n := dir()
	paths := []string{"b", "a", "b/x", "c", "b/y", "b/x/z", "b/x", "a/q", "0"}
	for i, path := range paths {
		x := dir()
		if i%3 == 1 {
			x = file(path)
		}
		m, e := Put(n, path, x)
		if e != api.OK {
			continue
		}
		if !Right(m) {
			t.Fatal("not right")
		}
		seen := map[string]bool{}
		for _, p := range Paths(m) {
			if seen[p] {
				t.Fatal(p, "twice")
			}
			seen[p] = true
			was, e := At(n, p)
			is, _ := At(m, p)
			if p != path && !strings.HasPrefix(path+"/", p+"/") && !strings.HasPrefix(p, path+"/") && p != "" && (e != api.OK || !Same(was, is)) {
				t.Fatalf("Put at %q changes %q", path, p)
			}
		}
		n = m
	}
}
