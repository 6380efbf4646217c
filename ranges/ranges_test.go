package ranges

import (
	"slices"
	"strings"
	"testing"

	"tithebarn/api"
	"tithebarn/version"
)

var versions = []string{"0", "0-a", "0.1", "1-rc1", "1", "1.0", "1.2-rc1", "1.2", "1.2.0", "1.2.2", "1.2.3-a", "1.2.3", "1.2.10", "1.3-a", "1.3", "1.9", "1.9.9", "2-a", "2", "3", "3.1", "10"}

func parse(t *testing.T, s string) api.Range {
	t.Helper()
	r, e := Parse(s)
	if e != api.OK {
		t.Fatalf("%q: %d", s, e)
	}
	return r
}

func same(a, b api.Range) bool {
	return slices.EqualFunc(a, b, func(x, y []api.Bound) bool { return slices.Equal(x, y) })
}

// P14.1, P14.2
func TestParse(t *testing.T) {
	r := parse(t, "=1,!=2|<3,<=4,>5-a|>=6.1,~7|*,*")
	want := api.Range{{{Op: api.Eq, Version: "1"}, {Op: api.Ne, Version: "2"}}, {{Op: api.Lt, Version: "3"}, {Op: api.Le, Version: "4"}, {Op: api.Gt, Version: "5-a"}}, {{Op: api.Ge, Version: "6.1"}, {Op: api.Near, Version: "7"}}, {{}, {}}}
	if !same(r, want) {
		t.Fatal(r)
	}
	if !same(parse(t, "*"), api.Range{{{}}}) {
		t.Fatal("*")
	}
	row := strings.Repeat("=1,", 15) + "=1"
	most := strings.Repeat(row+"|", 15) + row
	for _, s := range []string{"*", "=1,!=2|<3,<=4,>5-a|>=6.1,~7|*,*", row, most} {
		if p, e := Print(parse(t, s)); e != api.OK || p != s {
			t.Errorf("%q: %q", s, p)
		}
	}
	for _, s := range []string{"", "1", "=01", "=", "*1", "**", "=1,", ",=1", "|", "=1|", "|=1", "=1||=1", "==1", "=>1", "!1", "! =1", " =1", "=1 ", "=1, =2", "< 1", "~*", "<>1", row + ",=1", most + "|=1", "=1;=2", ">==1", "≤1"} {
		if r, e := Parse(s); e != api.ErrRange || r != nil {
			t.Errorf("%q: %v, %d", s, r, e)
		}
	}
}

// P14.2, P14.3: ranges that may not be
func TestMayBe(t *testing.T) {
	one := []api.Bound{{Op: api.Eq, Version: "1"}}
	many := make(api.Range, 17)
	for i := range many {
		many[i] = one
	}
	for i, r := range []api.Range{{nil}, {{}}, {one, nil}, many, {make([]api.Bound, 17)}, {{{Op: 8, Version: "1"}}}, {{{Op: 255, Version: "1"}}}, {{{Op: api.Any, Version: "1"}}}, {{{Op: api.Eq}}}, {{{Op: api.Near, Version: "01"}}}, {{{Op: api.Ge, Version: "1,=2"}}}} {
		if s, e := Print(r); s != "" || e != api.ErrArg {
			t.Errorf("%d: %q, %d", i, s, e)
		}
		if Allows(r, "1") || Best(r, []string{"1"}) != -1 {
			t.Errorf("%d allows something", i)
		}
	}
	for _, r := range []api.Range{nil, {}, many[:16], {make([]api.Bound, 16)}} {
		if _, e := Print(r); e != api.OK || !Allows(r, "1") || Best(r, []string{"1"}) != 0 {
			t.Error(r)
		}
	}
	if s, _ := Print(nil); s != "*" {
		t.Error(s)
	}
}

// P14.3
func TestAllows(t *testing.T) {
	for r, l := range map[string][2]string{
		">=1.2,<2":   {"1.2 1.9.9 2-a 1.2.0", "2 1.2-rc1 1 10"},
		"~1.2.3":     {"1.2.3 1.2.10 1.2.3.1 1.2.4-a", "1.3 1.2.2 1.2.3-a 1.3-a 1.2 2.2.3"},
		"~1":         {"1 1.9 1.0.0 1.1-a", "2 0 2-a 1-a 10"},
		"~1-a":       {"1 1-a 1-b 1.9", "2 0"},
		"~1.2-a":     {"1.2-a 1.2 1.3 1.10-b", "1.1 2 1 1.1.9"},
		"~1.2":       {"1.2 1.10 1.3-a", "1 1.1 1.2-z 2.2"},
		"=1|>3":      {"1 3.1 10", "1.0 3 1-a 2"},
		"!=1":        {"1.0 1-a 0", "1"},
		"<1":         {"0 1-a 0.9", "1 1.0"},
		"<=1":        {"1 1-a 0", "1.0 2"},
		">1":         {"1.0 2", "1 1-a 0"},
		"*":          {"0 1-a 9", ""},
		"*,=1":       {"1", "2"},
		"<1|>2,!=3":  {"0 2.1 4", "1 2 3"},
		"=1,=2":      {"", "1 2"},
		"=1,=2|=1-a": {"1-a", "1 2"},
	} {
		x := parse(t, r)
		for _, v := range strings.Fields(l[0]) {
			if !Allows(x, v) {
				t.Errorf("%s does not allow %s", r, v)
			}
		}
		for _, v := range append(strings.Fields(l[1]), "", "01", "1-A", "x", "1.") {
			if Allows(x, v) {
				t.Errorf("%s allows %q", r, v)
			}
		}
	}
}

// P14.4
func TestBest(t *testing.T) {
	l := []string{"1", "x", "2", "1.9", "2", "3", "2-z", ""}
	for r, want := range map[string]int{"*": 5, "<3": 2, "<2": 6, "=1": 0, ">3": -1, "~1": 3, "=2": 2, "=1.9|=2-z": 6} {
		if i := Best(parse(t, r), l); i != want {
			t.Errorf("%s: %d, want %d", r, i, want)
		}
	}
	if Best(nil, []string{"2", "1", "2"}) != 0 {
		t.Error("the first one")
	}
	if Best(nil, l) != 5 || Best(nil, nil) != -1 || Best(nil, []string{"x"}) != -1 {
		t.Error("none")
	}
}

// P14.5
func TestReadOnly(t *testing.T) {
	r := parse(t, "=1,=2|=3")
	l := []string{"2", "1"}
	Best(r, l)
	Allows(r, "1")
	if p, _ := Print(r); p != "=1,=2|=3" || l[0] != "2" {
		t.Fatal("changed")
	}
	a, b := parse(t, "*|*"), parse(t, "*|*")
	a[0][0].Op = 3
	if b[0][0].Op != 0 || a[1][0].Op != 0 {
		t.Fatal("shared")
	}
}

// P14.6
func TestFollows(t *testing.T) {
	for _, v := range versions {
		for _, w := range versions {
			is := func(op string) bool { return Allows(parse(t, op+w), v) }
			if is("~") && !is(">=") {
				t.Errorf("~%s %s", w, v)
			}
			if is("<") == is(">=") || is("=") == is("!=") || is(">") == is("<=") {
				t.Errorf("%s %s", w, v)
			}
			c, _ := version.Texts(v, w)
			if is("<") != (c < 0) || is("=") != (c == 0) || is(">") != (c > 0) {
				t.Errorf("%s %s", w, v)
			}
		}
	}
	p, _ := Print(api.Range{})
	for _, v := range versions {
		if Allows(parse(t, p), v) != Allows(nil, v) {
			t.Error(v)
		}
	}
}
