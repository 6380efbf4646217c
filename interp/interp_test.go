package interp

import (
	"math"
	"strconv"
	"strings"
	"testing"

	"tithebarn/api"
	"tithebarn/files"
	"tithebarn/numbers"
	"tithebarn/recipe"
)

func file(data string) api.Node { return api.Node{Kind: api.File, Data: data} }

func dir(l ...any) api.Node {
	n := api.Node{Kind: api.Dir}
	for i := 0; i < len(l); i += 2 {
		n.Entries = append(n.Entries, api.Entry{Name: l[i].(string), Node: l[i+1].(api.Node)})
	}
	return n
}

func inputs() []Input {
	return []Input{
		{"in", dir("d", dir("e", file("deep")), "f", file("data"), "l", api.Node{Kind: api.Link, Data: "../x"}, "x", api.Node{Kind: api.Exec, Data: "run"})},
		{"bad", dir("b", file(""), "a", file(""))},
		{"in", dir("other", file(""))},
		{"one", file("root")},
		{strings.Repeat("n", 600), dir()},
	}
}

const plenty = 100000

func expr(t *testing.T, s string) recipe.Expr {
	t.Helper()
	l, _, e := recipe.Parse("dir " + s)
	if e != api.OK {
		t.Fatalf("%s: %d", s, e)
	}
	return l[0].A
}

func tell(v Value) string {
	if v.IsText {
		return strconv.Quote(v.Text)
	}
	return numbers.Print(v.Num)
}

// P23.3: what expressions are worth, and how much fuel they use up
func TestEval(t *testing.T) {
	names := []string{"a", "b", "s", "a", "big"}
	values := []Value{{Num: 9}, {Num: 2}, {IsText: true, Text: "text", Num: 7}, {Num: 1, Text: "x"}, {IsText: true, Text: strings.Repeat("y", api.MaxFile)}, {Num: 5}}
	for s, want := range map[string]struct {
		value string
		fuel  int
	}{
		"1":                                {"1", 1},
		"s":                                {`"text"`, 1},
		"a":                                {"1", 1},
		"nan":                              {"nan", 1},
		"inf":                              {"inf", 1},
		"-inf":                             {"-inf", 2},
		"-0":                               {"-0", 2},
		"- -0":                             {"0", 3},
		"1 + 2 * 3":                        {"7", 5},
		"1 / 0":                            {"inf", 3},
		"1 / -0":                           {"-inf", 4},
		"0 / 0":                            {"nan", 3},
		"5 - 7":                            {"-2", 3},
		"s .. \"!\"":                       {`"text!"`, 3},
		"1 == 1":                           {"1", 3},
		"-0 == 0":                          {"0", 4},
		"nan == nan":                       {"1", 3},
		"1 != \"1\"":                       {"1", 3},
		"1 == \"1\"":                       {"0", 3},
		"s == \"text\"":                    {"1", 3},
		"s != \"text\"":                    {"0", 3},
		"-0 < 0":                           {"1", 4},
		"inf < nan":                        {"1", 3},
		"nan <= nan":                       {"1", 3},
		"1 < 1":                            {"0", 3},
		"1 > 1":                            {"0", 3},
		"1 <= 1":                           {"1", 3},
		"1 > 2":                            {"0", 3},
		"2 >= 2":                           {"1", 3},
		"\"a\" < \"ab\"":                   {"1", 3},
		"\"b\" <= \"ab\"":                  {"0", 3},
		"\"B\" > \"a\"":                    {"0", 3},
		"\"b\" >= \"ab\"":                  {"1", 3},
		"not 0":                            {"1", 2},
		"not -0":                           {"1", 3},
		"not nan":                          {"1", 2},
		"not -1":                           {"0", 3},
		"0 and s":                          {"0", 2},
		"nan and zz":                       {"0", 2},
		"7 or s":                           {"1", 2},
		"7 and 5":                          {"1", 3},
		"7 and -0":                         {"0", 4},
		"0 or nan":                         {"0", 3},
		"0 or 3":                           {"1", 3},
		"len(s)":                           {"4", 2},
		"len(\"\")":                        {"0", 2},
		"str(1 / 3)":                       {`"6004799503160661p-54"`, 4},
		"num(\"12\")":                      {"12", 2},
		"num(\"1.5\")":                     {"nan", 2},
		"num(\"-0\")":                      {"-0", 2},
		"num(\"nan\")":                     {"nan", 2},
		"down(-3 / 2)":                     {"-2", 5},
		"min(0, -0)":                       {"-0", 4},
		"max(1, nan)":                      {"nan", 3},
		"cut(s, 1, 2)":                     {`"ex"`, 4},
		"cut(s, 3, 9)":                     {`"t"`, 4},
		"cut(s, 4, 1)":                     {`""`, 4},
		"cut(s, 9007199254740991, 1)":      {`""`, 4},
		"cut(s, 0, 9007199254740991)":      {`"text"`, 4},
		"cut(s, -0, 0)":                    {`""`, 5},
		"count()":                          {"5", 1},
		"input(0)":                         {`"in"`, 2},
		"input(1)":                         {`"bad"`, 2},
		"len(input(4))":                    {"600", 5},
		"has(\"in\", \"d/e\")":             {"1", 3},
		"has(\"in\", \"\")":                {"1", 3},
		"has(\"in\", \"other\")":           {"0", 3},
		"has(\"bad\", \"\")":               {"0", 3},
		"has(\"bad\", \"a\")":              {"0", 3},
		"has(\"one\", \"a\")":              {"0", 3},
		"read(\"in\", \"f\")":              {`"data"`, 3},
		"read(\"in\", \"x\")":              {`"run"`, 3},
		"read(\"in\", \"l\")":              {`"../x"`, 3},
		"read(\"one\", \"\")":              {`"root"`, 3},
		"list(\"in\", \"\")":               {"4", 3},
		"list(\"in\", \"d\")":              {"1", 3},
		"entry(\"in\", \"\", 3)":           {`"x"`, 4},
		"entry(\"in\", \"d\", 0)":          {`"e"`, 4},
		"len(cut(big, 0, 511))":            {"511", 6},
		"len(cut(big, 0, 512))":            {"512", 7},
		"len(big)":                         {"65536", 2},
		"len(big .. \"\")":                 {"65536", 4 + 256},
		"len(cut(big, 1, 65536) .. \"a\")": {"65536", 7 + 255 + 256},
	} {
		v, left, e := Eval(expr(t, s), names, values, inputs(), plenty)
		if e != api.OK || tell(v) != want.value || left != plenty-want.fuel || v.IsText && v.Num != 0 || !v.IsText && v.Text != "" {
			t.Errorf("%s: %s, used %d, error %d", s, tell(v), plenty-left, e)
		}
		if v, left, e := Eval(expr(t, s), names, values, inputs(), want.fuel); e != api.OK || left != 0 || tell(v) != want.value {
			t.Errorf("%s with just enough: %d, %d", s, left, e)
		}
		if v, left, e := Eval(expr(t, s), names, values, inputs(), want.fuel-1); e != api.ErrFuel || left != 0 || v != (Value{}) {
			t.Errorf("%s with too little: %d, %d", s, left, e)
		}
	}
}

// P23.3: faults, and the fuel that is left then
func TestFaults(t *testing.T) {
	names := []string{"s", "big"}
	values := []Value{{IsText: true, Text: "text"}, {IsText: true, Text: strings.Repeat("y", api.MaxFile)}}
	for s, fuel := range map[string]int{
		"zz": 1, "len": 1, "1 + s": 3, "s - s": 3, "s * 1": 3, "s .. 1": 3, "1 .. 1": 3, "big .. s": 3, "1 < s": 3, "s >= 1": 3, "not s": 2, "-s": 2,
		"s and 1": 2, "s or 1": 2, "1 and s": 3, "0 or s": 3, "zz + zz": 2, "1 + zz": 3,
		"nope()": 1, "nope(1, 2)": 3, "len()": 1, "len(1)": 2, "len(s, s)": 3, "str(s)": 2, "num(1)": 2, "down(s)": 2, "min(1)": 2, "min(1, s)": 3, "max(1, 2, 3)": 4,
		"cut(s, 1)": 3, "cut(1, 1, 1)": 4, "cut(s, -1, 1)": 5, "cut(s, 1, -1)": 5, "cut(s, 1 / 2, 1)": 6, "cut(s, nan, 1)": 4, "cut(s, 0, inf)": 4, "cut(s, s, 1)": 4,
		"count(1)": 2, "input(5)": 2, "input(-1)": 3, "input(1 / 2)": 4, "input(s)": 2, "input(nan)": 2,
		"has(\"no\", \"a\")": 3, "has(\"in\", \"/\")": 3, "has(\"bad\", \"..\")": 3, "has(1, s)": 3,
		"read(\"in\", \"d\")": 3, "read(\"in\", \"zz\")": 3, "read(\"in\", \"/f\")": 3, "read(\"bad\", \"a\")": 3, "read(\"no\", \"a\")": 3, "read(\"in\", \"other\")": 3,
		"list(\"in\", \"f\")": 3, "list(\"bad\", \"\")": 3, "list(\"one\", \"\")": 3, "list(\"no\", \"\")": 3,
		"entry(\"in\", \"\", 4)": 4, "entry(\"in\", \"\", -1)": 5, "entry(\"in\", \"f\", 0)": 4, "entry(\"in\", \"\", nan)": 4,
	} {
		v, left, e := Eval(expr(t, s), names, values, inputs(), plenty)
		if e != api.ErrFault || v != (Value{}) || left != plenty-fuel {
			t.Errorf("%s: used %d, error %d", s, plenty-left, e)
		}
	}
	for i, x := range []recipe.Expr{{}, {Kind: recipe.Num, Num: -1}, {Kind: recipe.Bin}, {Kind: 99}} {
		if v, left, e := Eval(x, nil, nil, nil, -5); v != (Value{}) || left != -5 || e != api.ErrRecipe {
			t.Errorf("%d: %d, %d", i, left, e)
		}
	}
	if v, _, e := Eval(expr(t, "nan"), []string{"nan"}, []Value{{Num: 3}}, nil, 1); e != api.OK || v.Num != 3 {
		t.Error("nan may be set")
	}
}

// P23.1, P23.2: what recipes build
func TestRun(t *testing.T) {
	for s, want := range map[string]api.Node{
		"":                                 dir(),
		"file \"a\" = \"x\" .. str(1 / 0)": dir("a", file("xinf")),
		"for i = 1 to 3\nfile str(i) = \"\"\nend":                           dir("1", file(""), "2", file(""), "3", file("")),
		"dir \"d\"\nfile \"d/x\" = read(\"in\", \"f\")":                     dir("d", dir("x", file("data"))),
		"let a = -0 == 0\nfile str(a) = \"\"":                               dir("0", file("")),
		"exec \"a\" = \"b\"\nlink \"l\" = \"t\"":                            dir("a", api.Node{Kind: api.Exec, Data: "b"}, "l", api.Node{Kind: api.Link, Data: "t"}),
		"dir \"a\"\nfile \"a\" = \"x\"":                                     dir("a", file("x")),
		"file \"b\" = \"\"\nfile \"a\" = \"\"":                              dir("a", file(""), "b", file("")),
		"copy \"c\" = \"in\", \"d\"":                                        dir("c", dir("e", file("deep"))),
		"copy \"c\" = \"one\", \"\"":                                        dir("c", file("root")),
		"if 1\ndir \"y\"\nelse\ndir \"n\"\nend":                             dir("y", dir()),
		"if nan\ndir \"y\"\nelse\ndir \"n\"\nend":                           dir("n", dir()),
		"if -0\ndir \"y\"\nend":                                             dir(),
		"for i = 3 to 1\ndir \"y\"\nend\nfor i = -1 to -0\ndir str(i)\nend": dir("-1", dir(), "0", dir()),
		"for i = 1 to 3\nlet i = 7\nend\ndir str(i)":                        dir("7", dir()),
		"for i = 1 to 3\nend\ndir str(i)":                                   dir("3", dir()),
		"let n = 2\nfor i = n to n * 2\nlet n = 9\ndir str(i)\nend":         dir("2", dir(), "3", dir(), "4", dir()),
		"for i = 0 to count() - 1\nfile str(i) = cut(input(i), 0, 3)\nend":  dir("0", file("in"), "1", file("bad"), "2", file("in"), "3", file("one"), "4", file("nnn")),
	} {
		n, _, e := Run(s, inputs(), plenty)
		if e != api.OK || !files.Same(n, want) || !files.Right(n) {
			t.Errorf("%q: %v, %d", s, n, e)
		}
	}
	for s, want := range map[string]struct {
		e    api.Errno
		fuel int
	}{
		"file \"d/x\" = \"\"":                         {api.ErrFault, 3},
		"for i = 1 to 1125899906842624\nend":          {api.ErrFuel, plenty},
		"fail 1 + 2":                                  {api.ErrFault, 4},
		"file 1 = \"x\"":                              {api.ErrFault, 3},
		"file \"x\" = 1":                              {api.ErrFault, 3},
		"file \"\" = \"x\"":                           {api.ErrFault, 3},
		"file \"a/\" = \"x\"":                         {api.ErrFault, 3},
		"link \"a\" = \"\"":                           {api.ErrFault, 3},
		"dir \"\"":                                    {api.ErrFault, 2},
		"dir 1":                                       {api.ErrFault, 2},
		"copy \"\" = \"in\", \"f\"":                   {api.ErrFault, 4},
		"copy \"a\" = \"in\", \"zz\"":                 {api.ErrFault, 4},
		"copy \"a\" = \"bad\", \"\"":                  {api.ErrFault, 4},
		"copy \"a\" = \"no\", \"\"":                   {api.ErrFault, 4},
		"copy \"a\" = 1, \"\"":                        {api.ErrFault, 4},
		"copy \"a\" = \"one\", 1":                     {api.ErrFault, 4},
		"copy \"a\" = 1, zz":                          {api.ErrFault, 4},
		"if \"x\"\nend":                               {api.ErrFault, 2},
		"for i = 1 to \"x\"\nend":                     {api.ErrFault, 3},
		"for i = 1 / 2 to 3\nend":                     {api.ErrFault, 5},
		"for i = 1 to inf\nend":                       {api.ErrFault, 3},
		"for i = 1 to 5\nif i == 3\nfail 0\nend\nend": {api.ErrFault, 3 + 3*(1+1+3) + 2},
		"let a = b":                                   {api.ErrFault, 2},
	} {
		n, left, e := Run(s, inputs(), plenty)
		if e != want.e || left != plenty-want.fuel || !files.Same(n, api.Node{}) {
			t.Errorf("%q: used %d, error %d", s, plenty-left, e)
		}
	}
}

// P23.1, P23.2: what is no recipe
func TestErrors(t *testing.T) {
	for s, want := range map[string]api.Errno{"foo": api.ErrRecipe, "if 1": api.ErrRecipe, strings.Repeat("#", api.MaxText+1): api.ErrLimit, "let a = 1" + strings.Repeat(" + 1", 40): api.ErrRecipe} {
		for _, fuel := range []int{7, -7} {
			if n, left, e := Run(s, nil, fuel); e != want || left != fuel || !files.Same(n, api.Node{}) {
				t.Errorf("%.20q: %d, %d", s, left, e)
			}
		}
	}
	if _, left, e := Steps([]recipe.Step{{Kind: 99}}, nil, -7); e != api.ErrRecipe || left != -7 {
		t.Error(left, e)
	}
	for _, fuel := range []int{-1, math.MinInt, 0} {
		if _, left, e := Run("let a = 1", nil, fuel); e != api.ErrFuel || left != 0 {
			t.Error(fuel, left, e)
		}
		if n, left, e := Run("", nil, fuel); e != api.OK || left != 0 || !files.Same(n, dir()) {
			t.Error(fuel, left, e)
		}
	}
	if _, left, e := Run("for i = 0 to 1125899906842623\nend", nil, math.MaxInt); e != api.OK || left != math.MaxInt-3-1<<50 {
		t.Error(left, e)
	}
	if _, left, e := Run("", nil, math.MaxInt); e != api.OK || left != math.MaxInt {
		t.Error(left, e)
	}
}

// P23.4
func TestReadOnly(t *testing.T) {
	in := inputs()
	Run("copy \"c\" = \"in\", \"d\"\nfile \"c/z\" = \"\"\nfile \"c/e\" = \"\"", in, plenty)
	for i, x := range inputs() {
		if in[i].Name != x.Name || !files.Same(in[i].Tree, x.Tree) {
			t.Fatal("changed")
		}
	}
}

// P23.5
func TestFollows(t *testing.T) {
	s := "let n = 1\nfor i = 1 to 9\nlet n = n * i\nif n > 100\nfile str(n) = \"x\" .. str(i)\nelse\ndir \"d\" .. str(i)\nend\nend\ncopy \"c\" = \"in\", \"\"\nfile \"c/d/new\" = cut(read(\"in\", \"f\"), 1, 2)"
	want, left, e := Run(s, inputs(), plenty)
	if e != api.OK || !files.Right(want) {
		t.Fatal(e)
	}
	used := plenty - left
	for fuel := range used + 5 {
		n, left, e := Run(s, inputs(), fuel)
		if fuel < used {
			if e != api.ErrFuel || left != 0 || !files.Same(n, api.Node{}) {
				t.Fatal(fuel, e)
			}
		} else if e != api.OK || left != fuel-used || !files.Same(n, want) {
			t.Fatal(fuel, left, e)
		}
	}
	// trees and texts stay within their limits
	if _, _, e := Run("for i = 1 to 5000\ndir str(i)\nend", nil, math.MaxInt); e != api.ErrFault {
		t.Fatal(e)
	}
	if _, _, e := Run("let s = \"x\"\nfor i = 1 to 60\nlet s = s .. s\nend", nil, math.MaxInt); e != api.ErrFault {
		t.Fatal(e)
	}
	if _, _, e := Run("let p = \"d\"\nfor i = 1 to 40\ndir p\nlet p = p .. \"/d\"\nend", nil, math.MaxInt); e != api.ErrFault {
		t.Fatal(e)
	}
}
