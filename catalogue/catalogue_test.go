package catalogue

import (
	"slices"
	"strconv"
	"strings"
	"testing"

	"tithebarn/api"
)

func any() api.Range { return api.Range{{{}}} }

func variant(name, version string) api.Variant { return api.Variant{Name: name, Version: version} }

func numbered(n int) []api.Variant {
	var l []api.Variant
	for i := range n {
		l = append(l, variant("a", strconv.Itoa(i)))
	}
	return l
}

func needs(n int) []api.Need {
	var l []api.Need
	for range n {
		l = append(l, api.Need{Name: "b", Range: any()})
	}
	return l
}

const full = "package a 1\nneeds b >=1,<2|=7\nneeds c *\nconflicts d ~1-a\n| echo hi\n|\n||#x\npackage b 1.0-rc1\npackage a 2\n|x\n"

// P15.2 and the document's examples
func TestParse(t *testing.T) {
	l, line, e := Parse("package a 1\nneeds b >=1,<2\n| echo hi")
	want := []api.Variant{{Name: "a", Version: "1", Needs: []api.Need{{Name: "b", Range: api.Range{{{Op: api.Ge, Version: "1"}, {Op: api.Lt, Version: "2"}}}}}, Recipe: " echo hi\n"}}
	if e != api.OK || line != 0 || !Same(l, want) {
		t.Fatal(l, line, e)
	}
	// mixed lines, empty ones, such as begin with #; the last one not ended
	l, line, e = Parse("\n#package x\npackage a 1\n|1\nconflicts c *\n\n|2\nneeds b *\n#|3\n|3\nneeds d *\npackage b 1\n|z")
	want = []api.Variant{{Name: "a", Version: "1", Needs: []api.Need{{Name: "b", Range: any()}, {Name: "d", Range: any()}}, Conflicts: []api.Need{{Name: "c", Range: any()}}, Recipe: "1\n2\n3\n"}, {Name: "b", Version: "1", Recipe: "z\n"}}
	if e != api.OK || line != 0 || !Same(l, want) {
		t.Fatal(l, line, e)
	}
	if l, line, e := Parse(""); l != nil || line != 0 || e != api.OK {
		t.Fatal("of nothing")
	}
	many := "package a 1\n" + strings.Repeat("needs b *\n", 64) + strings.Repeat("conflicts b *\n", 64)
	if _, _, e := Parse(many); e != api.OK {
		t.Fatal(e)
	}
	var b strings.Builder
	for i := range 2000 {
		b.WriteString("package a " + strconv.Itoa(i) + "\n")
	}
	if l, _, e := Parse(b.String()); e != api.OK || len(l) != 2000 {
		t.Fatal(e)
	}
	for s, want := range map[string]struct {
		line int
		e    api.Errno
	}{
		"needs b *":                         {1, api.ErrLine},
		"package a 1\npackage a 1":          {2, api.ErrTwice},
		"#\n\nconflicts b *":                {3, api.ErrLine},
		"|x":                                {1, api.ErrLine},
		"package":                           {1, api.ErrLine},
		"package ":                          {1, api.ErrLine},
		"package a":                         {1, api.ErrLine},
		"package a ":                        {1, api.ErrLine},
		"package a  1":                      {1, api.ErrLine},
		"package  a 1":                      {1, api.ErrLine},
		" package a 1":                      {1, api.ErrLine},
		"package a 1 ":                      {1, api.ErrLine},
		"package a 1\r":                     {1, api.ErrLine},
		"package a 1 2":                     {1, api.ErrLine},
		"package a 01":                      {1, api.ErrLine},
		"package .a 1":                      {1, api.ErrLine},
		"package a 1\nneeds b":              {2, api.ErrLine},
		"package a 1\nneeds b 1":            {2, api.ErrLine},
		"package a 1\nneeds b =1 ":          {2, api.ErrLine},
		"package a 1\nneeds .b *":           {2, api.ErrLine},
		"package a 1\nconflicts b":          {2, api.ErrLine},
		"package a 1\n #":                   {2, api.ErrLine},
		"package a 1\nwants b *":            {2, api.ErrLine},
		"package a 1\n ":                    {2, api.ErrLine},
		"package a 1\nPackage b 1":          {2, api.ErrLine},
		many + "needs b *":                  {130, api.ErrLine},
		many + "|\nconflicts b *\nx":        {131, api.ErrLine},
		b.String() + "package b 1":          {2001, api.ErrLine},
		b.String() + "package a 1":          {2001, api.ErrLine},
		b.String()[:12] + "x\npackage a 0":  {2, api.ErrLine},
		"package a 1\n\n|\npackage a 1\nxx": {4, api.ErrTwice},
	} {
		if l, line, e := Parse(s); l != nil || line != want.line || e != want.e {
			t.Errorf("%.60q: line %d, error %d", s, line, e)
		}
	}
	long := "package a 1\n" + strings.Repeat("|\n", (api.MaxText-12)/2)
	if l, line, e := Parse(long); e != api.OK || line != 0 || len(l) != 1 || len(l[0].Recipe) != (api.MaxText-12)/2 {
		t.Error("the longest one", e)
	}
	if l, line, e := Parse("x" + long); e != api.ErrLimit || line != 0 || l != nil {
		t.Error("one too long", line, e)
	}
}

// P15.1
func TestCheck(t *testing.T) {
	good := variant("a", "1")
	for i, v := range []api.Variant{{}, variant("", "1"), variant(".a", "1"), variant("a", ""), variant("a", "01"), {Name: "a", Version: "1", Needs: needs(65)}, {Name: "a", Version: "1", Conflicts: needs(65)}, {Name: "a", Version: "1", Recipe: "x"}, {Name: "a", Version: "1", Recipe: "\nx"}, {Name: "a", Version: "1", Needs: []api.Need{{Name: "b"}}}, {Name: "a", Version: "1", Needs: []api.Need{{Name: "", Range: any()}}}, {Name: "a", Version: "1", Conflicts: []api.Need{{Name: "b", Range: api.Range{}}}}, {Name: "a", Version: "1", Conflicts: []api.Need{{Name: "b", Range: api.Range{{}}}}}} {
		// even where it is there already: that it may not be comes first
		if n, e := Check([]api.Variant{good, v, good}); n != 1 || e != api.ErrArg {
			t.Errorf("%d: %d, %d", i, n, e)
		}
	}
	if n, e := Check([]api.Variant{good, variant("a", "1.0"), variant("b", "1"), good, {}}); n != 3 || e != api.ErrTwice {
		t.Error(n, e)
	}
	if n, e := Check(nil); n != 0 || e != api.OK {
		t.Error(n, e)
	}
	if n, e := Check(numbered(2000)); n != 2000 || e != api.OK {
		t.Error(n, e)
	}
	if n, e := Check(append(numbered(2000), api.Variant{})); n != 0 || e != api.ErrLimit {
		t.Error(n, e)
	}
	v := api.Variant{Name: "a", Version: "1", Needs: needs(64), Conflicts: needs(64)}
	size := 12 + 64*10 + 64*14
	v.Recipe = strings.Repeat("x", api.MaxText-size-2) + "\n"
	if n, e := Check([]api.Variant{v}); n != 1 || e != api.OK {
		t.Error("the longest text", n, e)
	}
	v.Recipe = "x" + v.Recipe
	if n, e := Check([]api.Variant{v}); n != 0 || e != api.ErrLimit {
		t.Error("one too long", n, e)
	}
	if n, e := Check([]api.Variant{v, {}}); n != 1 || e != api.ErrArg {
		t.Error("what may not be comes ahead of the length", n, e)
	}
	v.Recipe = strings.Repeat("\n", 2*api.MaxText)
	if n, e := Check([]api.Variant{v}); n != 0 || e != api.ErrLimit {
		t.Error("a long recipe", n, e)
	}
}

// P15.3, P15.8
func TestPrint(t *testing.T) {
	l, _, e := Parse(full)
	if s, e2 := Print(l); e != api.OK || e2 != api.OK || s != full {
		t.Fatalf("%q", s)
	}
	if s, e := Print([]api.Variant{{}}); s != "" || e != api.ErrArg {
		t.Error(e)
	}
	if s, e := Print([]api.Variant{variant("a", "1"), variant("a", "1")}); s != "" || e != api.ErrTwice {
		t.Error(e)
	}
	if s, e := Print(numbered(2001)); s != "" || e != api.ErrLimit {
		t.Error(e)
	}
	if s, e := Print(nil); s != "" || e != api.OK {
		t.Error(e)
	}
	for _, s := range []string{full, "package a 1\n|1\nneeds b *\n|2", "", "package a 1\n|\n|\n"} {
		l, _, _ := Parse(s)
		if n, e := Check(l); n != len(l) || e != api.OK {
			t.Fatal("what is parsed may not be")
		}
		p, _ := Print(l)
		m, _, e := Parse(p)
		if e != api.OK || !Same(l, m) {
			t.Fatalf("%q", p)
		}
		// lines that are passed over, between any two lines
		parts := strings.Split(s, "\n")
		for i := range parts {
			x := strings.Join(slices.Insert(slices.Clone(parts), i, "", "#|"), "\n")
			if m, _, e := Parse(x); e != api.OK || !Same(l, m) {
				t.Fatalf("%q", x)
			}
		}
	}
}

// P15.4
func TestFind(t *testing.T) {
	l := append(numbered(5), variant("b", "1"), variant("a", "1.5"), variant("a", "x"))
	for s, want := range map[string][]int{"a": {0, 1, 2, 3, 4, 6}, "a@>=1,<3": {1, 2, 6}, "b": {5}, "c": nil, "a@=9": nil} {
		w, _ := Wants(s)
		if got := Find(l, w[0]); !slices.Equal(got, want) {
			t.Errorf("%s: %v", s, got)
		}
	}
	for _, n := range []api.Need{{}, {Name: "a"}, {Name: "a", Range: api.Range{}}, {Name: "a", Range: api.Range{{}}}, {Name: "", Range: any()}} {
		if got := Find(append(l, api.Variant{Version: "1"}), n); got != nil {
			t.Error(got)
		}
	}
}

// P15.5
func TestSame(t *testing.T) {
	l, _, _ := Parse(full)
	for i, s := range []string{"a 1", "a 2", ">=1", "<2", "=7", "needs c", "conflicts d", "~1-a", " echo hi", "|\n", "rc1", "|x", "package b 1.0-rc1\n"} {
		r := map[string]string{"a 1": "x 1", "a 2": "a 3", ">=1": ">=0", "<2": "<=2", "=7": "=7,*", "needs c": "needs x", "conflicts d": "conflicts x", "~1-a": "~1-b", " echo hi": "echo hi", "|\n": "| \n", "rc1": "rc2", "|x": "|y", "package b 1.0-rc1\n": ""}[s]
		m, _, e := Parse(strings.Replace(full, s, r, 1))
		if e != api.OK || Same(l, m) || Same(m, l) {
			t.Errorf("%d: %q", i, s)
		}
	}
	if !Same(nil, []api.Variant{}) || !Same([]api.Variant{{Needs: []api.Need{{Range: nil}}}}, []api.Variant{{Needs: []api.Need{{Range: api.Range{}}}, Conflicts: []api.Need{}}}) || Same([]api.Variant{{Needs: []api.Need{{}}}}, []api.Variant{{Conflicts: []api.Need{{}}}}) {
		t.Error("nil and empty")
	}
}

// P15.6
func TestWants(t *testing.T) {
	l, e := Wants("a@~1.2 b")
	if e != api.OK || len(l) != 2 || !sameNeeds(l, []api.Need{{Name: "a", Range: api.Range{{{Op: api.Near, Version: "1.2"}}}}, {Name: "b", Range: any()}}) {
		t.Fatal(l, e)
	}
	for _, s := range []string{"a@*", "a a", "a@=1|=2,!=3", strings.Repeat("a ", 63) + "a"} {
		if l, e := Wants(s); e != api.OK || len(l) != strings.Count(s, " ")+1 {
			t.Errorf("%q: %d", s, e)
		}
	}
	for _, s := range []string{"", " ", "a ", " a", "a  b", "a@", "@*", "a@1", "a@*@*", ".a", "a@ =1", "a\nb", "a\tb", strings.Repeat("a ", 64) + "a", strings.Repeat("x", 65)} {
		if l, e := Wants(s); l != nil || e != api.ErrArg {
			t.Errorf("%q: %v, %d", s, l, e)
		}
	}
}

// P15.7
func TestCopies(t *testing.T) {
	l, _, _ := Parse(full)
	Check(l)
	Find(l, l[0].Needs[0])
	if s, _ := Print(l); s != full {
		t.Fatal("changed")
	}
	w, _ := Wants("a b")
	w[0].Range[0][0].Op = 9
	if w[1].Range[0][0].Op != 0 {
		t.Fatal("shared")
	}
	f := Find(l, api.Need{Name: "a", Range: any()})
	f[0] = 7
	if Find(l, api.Need{Name: "a", Range: any()})[0] != 0 {
		t.Fatal("shared")
	}
}
