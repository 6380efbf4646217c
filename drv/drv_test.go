package drv

import (
	"bytes"
	"math/rand"
	"slices"
	"strconv"
	"strings"
	"testing"

	"tithebarn/api"
	"tithebarn/naming"
	"tithebarn/sha"
)

func object(i int) string {
	s, _ := naming.Name(api.Digest{byte(i >> 8), byte(i)}, "o")
	return s
}

func objects(n int) []string {
	var l []string
	for i := range n {
		l = append(l, object(i))
	}
	return l
}

func good() []api.Drv {
	return []api.Drv{
		{Name: "x"},
		{Name: strings.Repeat("n", 60), Inputs: objects(64), Recipe: strings.Repeat("r", api.MaxText)},
		{Name: "a-1.0", Inputs: []string{object(1), object(2), object(2) + "x"}, Recipe: "\x00\xff\n"},
		{Name: "a", Inputs: []string{}, Recipe: "file"},
	}
}

func same(a, b api.Drv) bool {
	return a.Name == b.Name && a.Recipe == b.Recipe && slices.Equal(a.Inputs, b.Inputs)
}

// P24.1, P24.2, P24.4: what is not right
func TestRight(t *testing.T) {
	for i, d := range good() {
		if !Right(d) {
			t.Errorf("good %d", i)
		}
	}
	for i, d := range []api.Drv{{}, {Name: ".x"}, {Name: strings.Repeat("n", 61)}, {Name: "x", Inputs: objects(65)}, {Name: "x", Inputs: []string{"x"}}, {Name: "x", Inputs: []string{object(2), object(1)}}, {Name: "x", Inputs: []string{object(1), object(1)}}, {Name: "x", Inputs: []string{""}}, {Name: "x", Recipe: strings.Repeat("r", api.MaxText+1)}} {
		b, e := Put(d)
		s, e2 := Name(d)
		if Right(d) || b != nil || e != api.ErrArg || s != "" || e2 != api.ErrArg {
			t.Errorf("bad %d: %d, %d", i, e, e2)
		}
	}
}

// P24.2, P24.3, P24.8
func TestPut(t *testing.T) {
	if b, e := Put(api.Drv{Name: "x"}); e != api.OK || string(b) != "DRV1\x00\x00\x00\x01x\x00\x00\x00\x00\x00\x00" {
		t.Fatalf("%q", b)
	}
	o := object(1)
	if b, e := Put(api.Drv{Name: "ab", Inputs: []string{o}, Recipe: "r\n"}); e != api.OK || string(b) != "DRV1\x00\x00\x00\x02ab\x00\x01\x00\x00\x00\x22"+o+"\x00\x00\x00\x02r\n" {
		t.Fatalf("%q", b)
	}
	for i, d := range good() {
		b, _ := Put(d)
		if got, e := Get(b); e != api.OK || !same(got, d) {
			t.Errorf("%d: %d", i, e)
		}
		for _, n := range []int{0, 3, 4, 8, len(b) / 2, len(b) - 1} {
			if got, e := Get(b[:n]); e != api.ErrLine || !same(got, api.Drv{}) {
				t.Errorf("%d: %d bytes are one", i, n)
			}
		}
		if _, e := Get(append(bytes.Clone(b), 0)); e != api.ErrLine {
			t.Errorf("%d: and one more", i)
		}
	}
	b, _ := Put(good()[2])
	for i := range b {
		for _, c := range []byte{0, 1, 3, 'z', 255} {
			x := bytes.Clone(b)
			x[i] = c
			if d, e := Get(x); e == api.OK {
				if y, _ := Put(d); !bytes.Equal(x, y) {
					t.Fatalf("%q", x)
				}
			}
		}
	}
	two := text(number([]byte("DRV1\x00\x00\x00\x01x"), 2, 2), object(2))
	if _, e := Get(text(text(two, object(1)), "")); e != api.ErrLine {
		t.Error("inputs that fall")
	}
	if _, e := Get(nil); e != api.ErrLine {
		t.Error("nil")
	}
}

// P24.4
func TestName(t *testing.T) {
	for _, d := range good() {
		b, _ := Put(d)
		want, _ := naming.Name(sha.Sum(b), d.Name+".drv")
		if s, e := Name(d); e != api.OK || s != want {
			t.Error(s, e)
		}
	}
}

// graphs are written so: a:bc b:c
func read(s string) ([]string, [][]string) {
	var names []string
	var needs [][]string
	for _, x := range strings.Fields(s) {
		name, l, _ := strings.Cut(x, ":")
		names, needs = append(names, name), append(needs, strings.Split(l, ""))
	}
	return names, needs
}

// P24.5
func TestSort(t *testing.T) {
	for s, want := range map[string][]int{"": nil, "a:bc b:c c:": {2, 1, 0}, "a b c": {0, 1, 2}, "c: a:c b:a d:": {0, 1, 2, 3}, "a:d b:d c d": {2, 3, 0, 1}, "a:xyz b:x": {0, 1}, "a:bbb b:": {1, 0}} {
		if l, e := Sort(read(s)); e != api.OK || !slices.Equal(l, want) {
			t.Errorf("%s: %v, %d", s, l, e)
		}
	}
	for s, want := range map[string]api.Errno{"a:bc b:c c: d:d": api.ErrCycle, "a:b b:a": api.ErrCycle, "a:b b:c c:a d:": api.ErrCycle, "a:a a:": api.ErrTwice, "a b a": api.ErrTwice} {
		if l, e := Sort(read(s)); e != want || l != nil {
			t.Errorf("%s: %v, %d", s, l, e)
		}
	}
	if l, e := Sort([]string{"a", "b"}, [][]string{{"b"}}); e != api.OK || !slices.Equal(l, []int{1, 0}) {
		t.Error("fewer rows", l, e)
	}
	if l, e := Sort([]string{"a"}, [][]string{nil, {"a"}, {"b"}}); e != api.OK || !slices.Equal(l, []int{0}) {
		t.Error("more rows", l, e)
	}
	var names []string
	var needs [][]string
	for i := range 50000 {
		names = append(names, strconv.Itoa(i))
		needs = append(needs, []string{strconv.Itoa(i + 1)})
	}
	if l, e := Sort(names, needs); e != api.OK || len(l) != 50000 || l[0] != 49999 {
		t.Error("a chain", e)
	}
}

// P24.6
func TestClosure(t *testing.T) {
	names, needs := read("a:bc b:c c: d:d")
	for roots, want := range map[string][]int{"b": {1, 2}, "d x": {3}, "": nil, "x": nil, "d a": {0, 1, 2, 3}, "c b c": {1, 2}} {
		if l, e := Closure(names, needs, strings.Fields(roots)); e != api.OK || !slices.Equal(l, want) {
			t.Errorf("%s: %v, %d", roots, l, e)
		}
	}
	names, needs = read("a: b: a:")
	if l, e := Closure(names, needs, nil); e != api.ErrTwice || l != nil {
		t.Error(l, e)
	}
}

// P24.7
func TestReadOnly(t *testing.T) {
	d := good()[2]
	b, _ := Put(d)
	got, _ := Get(b)
	b[0] = 'x'
	got.Inputs[0] = "x"
	if d.Inputs[0] != object(1) || got.Name != "a-1.0" {
		t.Fatal("shared")
	}
}

// P24.5, P24.6, P24.8: by the words
func TestFollows(t *testing.T) {
	r := rand.New(rand.NewSource(24))
	cycles := 0
	for range 1000 {
		n := 1 + r.Intn(7)
		var names []string
		needs := make([][]string, n)
		for i := range n {
			names = append(names, strconv.Itoa(i))
			for range r.Intn(3) {
				needs[i] = append(needs[i], strconv.Itoa(r.Intn(n+2)))
			}
		}
		var want []int
		for {
			next := -1
			for i := n - 1; i >= 0; i-- {
				open := func(s string) bool {
					j := slices.Index(names, s)
					return j >= 0 && !slices.Contains(want, j)
				}
				if !slices.Contains(want, i) && !slices.ContainsFunc(needs[i], open) {
					next = i
				}
			}
			if next < 0 {
				break
			}
			want = append(want, next)
		}
		l, e := Sort(names, needs)
		if len(want) < n {
			cycles++
			if e != api.ErrCycle || l != nil {
				t.Fatal(names, needs, l, e)
			}
		} else if e != api.OK || !slices.Equal(l, want) {
			t.Fatal(names, needs, l, want)
		}
		c, _ := Closure(names, needs, names[:1])
		var members []string
		for _, i := range c {
			members = append(members, names[i])
			for _, s := range needs[i] {
				if j := slices.Index(names, s); j >= 0 && !slices.Contains(c, j) {
					t.Fatal("a closure that lacks", s)
				}
			}
		}
		if again, _ := Closure(names, needs, members); !slices.Equal(again, c) || !slices.Contains(c, 0) {
			t.Fatal("not its own closure")
		}
	}
	if cycles < 100 {
		t.Fatal(cycles)
	}
}
