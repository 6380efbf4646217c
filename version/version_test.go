package version

import (
	"math"
	"slices"
	"strings"
	"testing"

	"tithebarn/api"
)

var texts = []string{"0-a", "0", "0.0", "0.1", "1-0", "1-9", "1-a", "1-aa", "1-b", "1-rc1", "1", "1.0-rc1", "1.0", "1.0.0", "1.2-z", "1.2", "1.2.0", "1.10", "2", "10", "999999999", "999999999.0.0.0.0.0.0.0-zzzzzzzzzzzzzzzz", "999999999.0.0.0.0.0.0.0"}

var wrong = []string{"", "01", "1.", ".1", "1..2", "1-", "1-A", "1-a-b", "1-a.b", "-a", "1.2.3.4.5.6.7.8.9", "1.2.3.4.5.6.7.8.", "1000000000", "0999999999", "00", "1.00", "a", "1 ", " 1", "+1", "-1", "1-aaaaaaaaaaaaaaaaa", "1-é", "1-_", "1,2", "1\n", "1.2.3.4.5.6.7.8-", "١", "1-a/", "1-:", "1-`", "1-{", "/", ":"}

// P13.1
func TestParse(t *testing.T) {
	v, e := Parse("1.20.3-rc1")
	if e != api.OK || !slices.Equal(v.Numbers, []int{1, 20, 3}) || v.Tag != "rc1" {
		t.Fatal(v, e)
	}
	for _, s := range wrong {
		if v, e := Parse(s); e != api.ErrVersion || v.Numbers != nil || v.Tag != "" {
			t.Errorf("%q: %v, %d", s, v, e)
		}
	}
	if _, e := Parse(strings.Repeat("1.", 1<<20)); e != api.ErrVersion {
		t.Error("a long one")
	}
}

// P13.2, P13.7
func TestPrint(t *testing.T) {
	for _, s := range texts {
		v, e := Parse(s)
		p, e2 := Print(v)
		if e != api.OK || e2 != api.OK || p != s {
			t.Errorf("%q: %q", s, p)
		}
	}
	for _, v := range []V{{}, {nil, "a"}, {[]int{-1}, ""}, {[]int{1, 1000000000}, ""}, {[]int{math.MinInt}, ""}, {make([]int, 9), ""}, {[]int{1}, "A"}, {[]int{1}, "a b"}, {[]int{1}, "-"}, {[]int{1}, strings.Repeat("a", 17)}} {
		if s, e := Print(v); s != "" || e != api.ErrVersion {
			t.Errorf("%v: %q, %d", v, s, e)
		}
	}
	if s, e := Print(V{make([]int, 8), "0123456789abcdef"}); e != api.OK || s != "0.0.0.0.0.0.0.0-0123456789abcdef" {
		t.Error(s, e)
	}
}

// P13.3, P13.7
func TestCompare(t *testing.T) {
	for i, a := range texts {
		for j, b := range texts {
			v, _ := Parse(a)
			w, _ := Parse(b)
			want := 0
			if i < j {
				want = -1
			} else if i > j {
				want = 1
			}
			if got := Compare(v, w); got != want {
				t.Errorf("%s %s: %d", a, b, got)
			}
			if got, ok := Texts(a, b); got != want || !ok {
				t.Errorf("Texts %s %s: %d", a, b, got)
			}
		}
	}
	// of any numbers and tags
	any := []V{{nil, "A"}, {nil, "a"}, {nil, ""}, {[]int{math.MinInt}, ""}, {[]int{-1}, "\x00"}, {[]int{-1}, "\x00\x00"}, {[]int{-1}, ""}, {[]int{0}, ""}, {make([]int, 20), "x"}, {make([]int, 20), ""}, {[]int{math.MaxInt}, ""}}
	for i, v := range any {
		for j, w := range any {
			if c := Compare(v, w); (c < 0) != (i < j) || (c > 0) != (i > j) || c < -1 || c > 1 {
				t.Errorf("%d %d: %d", i, j, c)
			}
		}
	}
}

// P13.4
func TestTexts(t *testing.T) {
	for _, l := range [][2]string{{"1.2", "1.10"}, {"1.2", "1.2.0"}, {"1.0-rc1", "1.0"}, {"2", "10"}} {
		if c, ok := Texts(l[0], l[1]); c != -1 || !ok {
			t.Error(l)
		}
	}
	for _, s := range wrong {
		if c, ok := Texts(s, "0"); c != 0 || ok {
			t.Error(s)
		}
		if c, ok := Texts("1", s); c != 0 || ok {
			t.Error(s)
		}
	}
}

// P13.5, P13.6
func TestSort(t *testing.T) {
	l := slices.Clone(texts)
	slices.Reverse(l)
	l = append(l, "1", "1.10")
	was := slices.Clone(l)
	s, e := Sort(l)
	if e != api.OK || !slices.Equal(l, was) || len(s) != len(l) {
		t.Fatal(e)
	}
	for i := range s[1:] {
		if c, _ := Texts(s[i], s[i+1]); c > 0 {
			t.Fatal(s)
		}
	}
	if !slices.Equal(slices.Compact(slices.Clone(s)), texts) {
		t.Fatal(s)
	}
	for _, bad := range wrong {
		if s, e := Sort([]string{"1", bad, "2"}); s != nil || e != api.ErrVersion {
			t.Error(bad)
		}
	}
	if s, e := Sort(nil); s != nil || e != api.OK {
		t.Error("of none")
	}
	v, _ := Parse("1.2")
	v.Numbers[0] = 9
	if w, _ := Parse("1.2"); w.Numbers[0] != 1 {
		t.Error("shared")
	}
}
