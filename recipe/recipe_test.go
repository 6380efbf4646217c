package recipe

import (
	"math"
	"math/rand"
	"strings"
	"testing"

	"tithebarn/api"
)

func num(x float64) Expr { return Expr{Kind: Num, Num: x} }

func txt(s string) Expr { return Expr{Kind: Text, Text: s} }

func name(s string) Expr { return Expr{Kind: Name, Text: s} }

func call(s string, l ...Expr) Expr { return Expr{Kind: Call, Text: s, Args: l} }

func bin(sign string, a, b Expr) Expr { return Expr{Kind: Bin, Text: sign, Args: []Expr{a, b}} }

func not(a Expr) Expr { return Expr{Kind: Not, Args: []Expr{a}} }

func neg(a Expr) Expr { return Expr{Kind: Neg, Args: []Expr{a}} }

func parse(t *testing.T, s string) []Step {
	t.Helper()
	l, line, e := Parse(s)
	if e != api.OK || line != 0 {
		t.Fatalf("%q: line %d, error %d", s, line, e)
	}
	return l
}

func wrong(t *testing.T, s string, want int) {
	t.Helper()
	if l, line, e := Parse(s); l != nil || line != want || e != api.ErrRecipe {
		t.Errorf("%.60q: line %d, error %d, want line %d", s, line, e, want)
	}
}

// P22.1: steps
func TestSteps(t *testing.T) {
	s := "let a = 1\nfile \"f\" = b\nexec \"x\" = c\n link \"l\"=d\n\n  # a remark \"\nfail 0\ndir \"d\"\ncopy \"c\" = \"in\", \"p\"\nif a\ndir b\nelse\ndir c\nend\nfor i = 1 to 3\nif i\nend\nend"
	want := []Step{
		{Kind: Let, Name: "a", A: num(1)},
		{Kind: File, A: txt("f"), B: name("b")},
		{Kind: Exec, A: txt("x"), B: name("c")},
		{Kind: Link, A: txt("l"), B: name("d")},
		{Kind: Fail, A: num(0)},
		{Kind: Dir, A: txt("d")},
		{Kind: Copy, A: txt("c"), B: txt("in"), C: txt("p")},
		{Kind: If, A: name("a"), Body: []Step{{Kind: Dir, A: name("b")}}, Else: []Step{{Kind: Dir, A: name("c")}}},
		{Kind: For, Name: "i", A: num(1), B: num(3), Body: []Step{{Kind: If, A: name("i")}}},
	}
	if l := parse(t, s); !Same(l, want) {
		t.Fatal(l)
	}
	for _, s := range []string{"", "\n", "   ", " # x", "\n\n#\n"} {
		if l := parse(t, s); l != nil {
			t.Errorf("%q: %v", s, l)
		}
	}
	if l := parse(t, "if a\nelse\nend"); !Same(l, []Step{{Kind: If, A: name("a")}}) {
		t.Error(l)
	}
}

// P22.1: expressions
func TestExpressions(t *testing.T) {
	a, b, c, d := name("a"), name("b"), name("c"), name("d")
	for s, want := range map[string]Expr{
		"1 + 2 * 3":            bin("+", num(1), bin("*", num(2), num(3))),
		"1*2+3":                bin("+", bin("*", num(1), num(2)), num(3)),
		"a - b - c":            bin("-", bin("-", a, b), c),
		"a / b * c":            bin("*", bin("/", a, b), c),
		"a + b - c":            bin("-", bin("+", a, b), c),
		"a .. b .. c":          bin("..", bin("..", a, b), c),
		"a .. b + c":           bin("..", a, bin("+", b, c)),
		"a + b .. c":           bin("..", bin("+", a, b), c),
		"a == b .. c":          bin("==", a, bin("..", b, c)),
		"a or b and c":         bin("or", a, bin("and", b, c)),
		"a and b or c and d":   bin("or", bin("and", a, b), bin("and", c, d)),
		"a or b or c":          bin("or", bin("or", a, b), c),
		"a and b and c":        bin("and", bin("and", a, b), c),
		"not a and b":          bin("and", not(a), b),
		"not a == b":           not(bin("==", a, b)),
		"not not a":            not(not(a)),
		"a and not b or not c": bin("or", bin("and", a, not(b)), not(c)),
		"-a * b":               bin("*", neg(a), b),
		"a * -b":               bin("*", a, neg(b)),
		"- - 1":                neg(neg(num(1))),
		"1--1":                 bin("-", num(1), neg(num(1))),
		"-1":                   neg(num(1)),
		"(a + b) * c":          bin("*", bin("+", a, b), c),
		"((a))":                a,
		"-(a)":                 neg(a),
		"(not a) + 1":          bin("+", not(a), num(1)),
		"f()":                  call("f"),
		"f ( a , b + 1 )":      call("f", a, bin("+", b, num(1))),
		"f(g(a), (b))":         call("f", call("g", a), b),
		"a<=b":                 bin("<=", a, b),
		"a<b":                  bin("<", a, b),
		"a>=b":                 bin(">=", a, b),
		"a>-b":                 bin(">", a, neg(b)),
		"a!=b":                 bin("!=", a, b),
		"(a < b) < c":          bin("<", bin("<", a, b), c),
		"1..2":                 bin("..", num(1), num(2)),
		"nan":                  name("nan"),
		"3p60":                 num(3 * 0x1p60),
		"1p-1074":              num(0x1p-1074),
		"1p-1-1":               bin("-", num(0.5), num(1)),
		"9007199254740991":     num(0x1p53 - 1),
		"a_1b":                 name("a_1b"),
		"zaz":                  name("zaz"),
		"a09":                  name("a09"),
		"leto":                 name("leto"),
		"\"\"":                 txt(""),
		`"a\n\t\"\\b"`:         txt("a\n\t\"\\b"),
		"\"\x7f\xff é\"":       txt("\x7f\xff é"),
		`"a"and"b"`:            bin("and", txt("a"), txt("b")),
		`not"a"`:               not(txt("a")),
		"not(a)":               not(a),
	} {
		l := parse(t, "let x = "+s)
		if !Same(l, []Step{{Kind: Let, Name: "x", A: want}}) {
			t.Errorf("%s: %v", s, l)
		}
	}
	for _, s := range []string{"", "1 < 2 < 3", "a == b != c", "01", "2p3", "1p4", "1p", "1p-", "1pa", "1p-a", "1.5", "1a", "1to", "1and a", "a b", "1 2", "a.b", "a. .b", "!a", "a = b", "a =! b", "(", ")", "()", "(a", "a)", "f(", "f(,)", "f(a,)", "f(a b)", "f(a", "f(a,b", "+a", "a +", "* a", "a and", "and a", "or", "not", "a not b", "a == not b", "1 + not a", "- not a", "\"a", "\"a\\", "\"\\x\"", "\"\\0\"", "\"a\tb\"", "\"\x00\"", "'a'", "A", "_a", "aB", "é", "a;", "a\t", "if", "f(if)", "to", "a # b", "9007199254740992", "\"a\"\"b\"", "a$", "a\r"} {
		wrong(t, "\nlet x = "+s, 2)
	}
}

// P22.1: lines
func TestLines(t *testing.T) {
	for s, line := range map[string]int{
		"if a\nfile \"x\" = \"y\"":        3,
		"if a\nfile \"x\" = \"y\"\n":      3,
		"if a":                            2,
		"if a\n":                          2,
		"if a\n\n":                        3,
		"if a\n#":                         3,
		"for i = 1 to 2\nif i\nend":       4,
		"let if = 1":                      1,
		"let a = 1 < 2 < 3":               1,
		"end":                             1,
		"else":                            1,
		"if a\nelse\nelse\nend":           3,
		"for i = 1 to 2\nelse\nend":       2,
		"if a\nend\nend":                  3,
		"if a\nelse a\nend":               2,
		"if a\nend 1":                     2,
		"if a\nend end":                   2,
		"if a end":                        1,
		"a = 1":                           1,
		"let":                             1,
		"let a":                           1,
		"let a 1":                         1,
		"let 1 = 1":                       1,
		"let \"a\" = 1":                   1,
		"let a == 1":                      1,
		"let a = 1,":                      1,
		"file a":                          1,
		"file a, b":                       1,
		"copy a = b":                      1,
		"copy a = b c":                    1,
		"copy a = b, c, d":                1,
		"copy a, b = c":                   1,
		"dir":                             1,
		"dir a b":                         1,
		"dir a = b":                       1,
		"fail":                            1,
		"for i = 1":                       1,
		"for i = 1 to":                    1,
		"for to = 1 to 2":                 1,
		"for i 1 to 2":                    1,
		"for i = 1 .. 2":                  1,
		"if":                              1,
		"to":                              1,
		"not a":                           1,
		"lets a = 1":                      1,
		"let a = 1\ndir a\n x\nend":       3,
		"\t":                              1,
		"let a = 1\r":                     1,
		"let a = 1 # x":                   1,
		"if a\nend\n\n\nif b\nfoo\nend":   6,
		"if a\nif b\nelse\nend\nfoo\nend": 5,
	} {
		wrong(t, s, line)
	}
	long := strings.Repeat("#\n", api.MaxText/2)
	parse(t, long)
	if l, line, e := Parse(long + "x"); l != nil || line != 0 || e != api.ErrLimit {
		t.Error("one too long", line, e)
	}
	parse(t, "let a = "+strings.Repeat("1+", 100000)+"1")
}

// P22.1: depth
func TestDepth(t *testing.T) {
	deep := func(n int, open, mid, end string) string {
		return strings.Repeat(open, n) + mid + strings.Repeat(end, n)
	}
	for _, x := range [][3]string{{"(", "1", ")"}, {"not ", "1", ""}, {"-", "1", ""}, {"f(", "", ")"}, {"1 + (", "1", ")"}} {
		parse(t, "\nlet a = "+deep(32, x[0], x[1], x[2]))
		wrong(t, "\nlet a = "+deep(33, x[0], x[1], x[2]), 2)
	}
	parse(t, "let a = not -("+deep(29, "(", "1", ")")+")")
	wrong(t, "let a = not -("+deep(30, "(", "1", ")")+" + (1))", 1)
	parse(t, "let a = "+strings.Repeat("(1) + ", 100)+"1")
	parse(t, "let a = not 1 and "+deep(32, "(", "1", ")"))
	for _, open := range []string{"if 1\n", "for i = 1 to 2\n"} {
		parse(t, deep(32, open, "let a = "+deep(32, "(", "1", ")")+"\n", "end\n"))
		wrong(t, deep(33, open, "", "end\n"), 33)
	}
}

// P22.2
func TestPrint(t *testing.T) {
	for s, want := range map[string]string{
		"let a=1+2*3":                 "let a = 1 + (2 * 3)\n",
		"let a=-1":                    "let a = - 1\n",
		"let a=--f( )":                "let a = - (- f())\n",
		"let a=not(b or f(c+1,d))":    "let a = not (b or f(c + 1, d))\n",
		"let a=f(-b,not c)..\"x\"":    "let a = f(- b, not c) .. \"x\"\n",
		"file \"a\\n\\t\\\"\\\\\"=b":  "file \"a\\n\\t\\\"\\\\\" = b\n",
		"exec a=b\nlink a=b\nfail a":  "exec a = b\nlink a = b\nfail a\n",
		"copy a=b,c\ndir(a)":          "copy a = b, c\ndir a\n",
		"if a\nif b\nelse\nend\nend":  "if a\n  if b\n  end\nend\n",
		"if a\nelse\ndir b\nend":      "if a\nelse\n  dir b\nend\n",
		"for i=1 to n\nlet a=i\nend ": "for i = 1 to n\n  let a = i\nend\n",
		"let a=3p60":                  "let a = 3p60\n",
		" #":                          "",
	} {
		l := parse(t, s)
		p, e := Print(l)
		if e != api.OK || p != want {
			t.Errorf("%q: %q, %d", s, p, e)
		}
		if !Same(parse(t, want), l) {
			t.Errorf("%q: not the same", want)
		}
	}
	ring := []Expr{{Kind: Neg}}
	ring[0].Args = ring
	steps := []Step{{Kind: If, A: num(1)}}
	steps[0].Body = steps
	deep := num(1)
	for range 1000000 {
		deep = bin("+", deep, num(1))
	}
	rest := num(1)
	for range 33 {
		rest = neg(rest)
	}
	many := make([]Step, api.MaxText/6)
	for i := range many {
		many[i] = Step{Kind: Dir, A: name("a")}
	}
	if s, e := Print(many[:len(many)]); e != api.OK || len(s) != len(many)*6 {
		t.Error("the longest", e)
	}
	let := func(x Expr) []Step { return []Step{{Kind: Let, Name: "a", A: x}} }
	for i, l := range [][]Step{{{}}, {{Kind: 10}}, steps, let(Expr{}), let(ring[0]), let(deep), let(rest), let(Expr{Kind: 8}), let(num(-1)), let(num(math.NaN())), let(num(math.Inf(1))), let(num(math.Copysign(0, -1))), let(name("if")), let(name("A")), let(name("")), let(name("f()")), let(name("1")), let(call("f(1)")), let(call("not")), let(call("a +", num(1))), let(txt("\x01")), let(bin("^", num(1), num(2))), let(bin(",", num(1), num(2))), let(bin("..", num(1), Expr{})), let(Expr{Kind: Bin, Text: "+", Args: []Expr{num(1)}}), let(Expr{Kind: Not}), let(Expr{Kind: Neg, Args: []Expr{num(1), num(2)}}), let(Expr{Kind: Num, Num: 1, Text: "x"}), let(Expr{Kind: Num, Args: []Expr{num(1)}}), let(Expr{Kind: Name, Text: "a", Num: 1}), let(Expr{Kind: Not, Text: "not", Args: []Expr{num(1)}}), {{Kind: Let, Name: "to", A: num(1)}}, {{Kind: Let, Name: "a = 1\nlet b", A: num(2)}}, {{Kind: Let, Name: "a", A: num(1), B: num(1)}}, {{Kind: Let, Name: "a", A: num(1), Body: many[:1]}}, {{Kind: Dir, Name: "a", A: num(1)}}, {{Kind: For, Name: "i", A: num(1), B: num(1), Else: many[:1]}}, {{Kind: If, A: num(1), B: num(1)}}, {{Kind: File, A: num(1)}}, append(many[:len(many):len(many)], many[0]), let(txt(strings.Repeat("x", api.MaxText))), let(txt(strings.Repeat("\n", api.MaxText/2)))} {
		if s, e := Print(l); s != "" || e != api.ErrArg {
			t.Errorf("%d: %.40q, %d", i, s, e)
		}
	}
}

// P22.3
func TestSame(t *testing.T) {
	full := "let a = 1\nif f(a, \"x\") and not b\nlet a = nan\nelse\nfor i = 1 to -2\nend\nend\n"
	for _, x := range [][2]string{{"1", "2"}, {"let a", "let b"}, {"f(", "g("}, {"x", "y"}, {"and", "or"}, {"not b", "b"}, {"-2", "2"}, {"else\n", ""}, {"let a = nan\n", ""}, {"i =", "j ="}, {"(a, ", "("}, {"let a = nan", "dir nan"}} {
		a, b := parse(t, full), parse(t, strings.Replace(full, x[0], x[1], 1))
		if Same(a, b) || Same(b, a) || !Same(a, parse(t, full)) {
			t.Error(x)
		}
	}
	let := func(x float64) []Step { return []Step{{A: num(x)}} }
	if !Same(let(math.NaN()), let(math.NaN())) || Same(let(0), let(math.Copysign(0, -1))) || !Same(nil, []Step{}) || !Same([]Step{{A: Expr{Args: []Expr{}}}}, []Step{{Body: []Step{}}}) {
		t.Error("edges")
	}
	deep := func(end float64) []Step {
		x := num(end)
		for range 1000000 {
			x = neg(x)
		}
		return []Step{{A: x}}
	}
	if !Same(deep(1), deep(1)) || Same(deep(1), deep(2)) {
		t.Error("deep")
	}
}

// P22.4
func TestKey(t *testing.T) {
	keys := " let file exec link dir copy if else end for to fail and or not "
	for _, s := range append(strings.Fields(keys), "", " ", "lets", "Let", "nan", "inf", "len", "let ") {
		if Key(s) != (s != "" && strings.Contains(keys, " "+s+" ") && !strings.Contains(s, " ")) {
			t.Error(s)
		}
	}
}

// P22.5
func TestReadOnly(t *testing.T) {
	l := parse(t, "let a = f(1)\nlet b = f(1)")
	Print(l)
	l[0].A.Args[0].Num = 2
	if l[1].A.Args[0].Num != 1 {
		t.Fatal("shared")
	}
}

// P22.6
func TestFollows(t *testing.T) {
	r := rand.New(rand.NewSource(22))
	var expr func(n int) Expr
	expr = func(n int) Expr {
		k := r.Intn(9)
		if n == 0 {
			k = r.Intn(3)
		}
		switch k {
		case 0:
			return num([]float64{0, 1, 7, 0.5, 3 * 0x1p60}[r.Intn(5)])
		case 1:
			return txt([]string{"", "a b", "\n\t\"\\", "\xff"}[r.Intn(4)])
		case 2:
			return name([]string{"a", "nan", "x_1"}[r.Intn(3)])
		case 3:
			return not(expr(n - 1))
		case 4:
			return neg(expr(n - 1))
		case 5:
			x := call("f")
			for range r.Intn(3) {
				x.Args = append(x.Args, expr(n-1))
			}
			return x
		}
		return bin([]string{"+", "-", "*", "/", "..", "==", "!=", "<", "<=", ">", ">=", "and", "or"}[r.Intn(13)], expr(n-1), expr(n-1))
	}
	var steps func(n int) []Step
	steps = func(n int) []Step {
		var l []Step
		for range r.Intn(4) {
			s := Step{Kind: uint8(1 + r.Intn(9)), A: expr(r.Intn(5))}
			switch s.Kind {
			case Let, For:
				s.Name = "v"
			}
			switch s.Kind {
			case File, Exec, Link, Copy, For:
				s.B = expr(2)
			}
			if s.Kind == Copy {
				s.C = expr(2)
			}
			if n > 0 && (s.Kind == If || s.Kind == For) {
				s.Body = steps(n - 1)
				if s.Kind == If {
					s.Else = steps(n - 1)
				}
			}
			l = append(l, s)
		}
		return l
	}
	for range 2000 {
		l := steps(3)
		s, e := Print(l)
		if e != api.OK || !Same(parse(t, s), l) {
			t.Fatalf("%v: %q, %d", l, s, e)
		}
		if again, _ := Print(parse(t, s)); again != s {
			t.Fatal(again)
		}
		// blanks and empty lines change nothing
		var b strings.Builder
		quoted := false
		for i := range len(s) {
			c := s[i]
			if c == '"' && s[i-1] != '\\' || c == '"' && strings.HasSuffix(s[:i], `\\`) && !strings.HasSuffix(s[:i], `\\\`) {
				quoted = !quoted
			}
			b.WriteByte(c)
			if !quoted && c == '\n' {
				b.WriteString(strings.Repeat("  \n", r.Intn(2)) + strings.Repeat(" ", r.Intn(3)))
			}
			if !quoted && c == ' ' {
				b.WriteString(strings.Repeat(" ", r.Intn(3)))
			}
		}
		if m, _, e := Parse(b.String()); e != api.OK || !Same(m, l) {
			t.Fatalf("%q: %d", b.String(), e)
		}
	}
}
