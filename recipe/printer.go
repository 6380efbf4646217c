package recipe

import (
	"strings"

	"tithebarn/api"
	"tithebarn/numbers"
)

// tooLong is what the printer gives up with. Whatever steps are made by hand, each that lies deeper makes the text longer, so it ends.
type tooLong struct{}

// unknown stands where there is no such kind.
const unknown = "?"

// printer makes the text of steps.
type printer struct {
	text []byte
}

// text tells the text of steps, and whether it is not too long.
func text(l []Step) (s string, ok bool) {
	p := &printer{}
	defer func() {
		if v := recover(); v != nil {
			_ = v.(tooLong)
			s, ok = "", false
		}
	}()
	p.steps(l, 0)
	return string(p.text), true
}

// say puts texts behind.
func (p *printer) say(l ...string) {
	for _, s := range l {
		if len(p.text)+len(s) > api.MaxText {
			panic(tooLong{})
		}
		p.text = append(p.text, s...)
	}
}

// steps says steps, so many ifs and fors around them.
func (p *printer) steps(l []Step, around int) {
	for i := range l {
		p.step(&l[i], around)
	}
}

// line says a line: a keyword, what stands behind it, and the end.
func (p *printer) line(around int, key string, rest func()) {
	for range around {
		p.say("  ")
	}
	p.say(key)
	if rest != nil {
		p.say(" ")
		rest()
	}
	p.say("\n")
}

// step says a step.
func (p *printer) step(s *Step, around int) {
	switch s.Kind {
	case Let:
		p.line(around, keyLet, func() { p.say(s.Name, " = "); p.expr(&s.A) })
	case File:
		p.line(around, keyFile, func() { p.node(s) })
	case Exec:
		p.line(around, keyExec, func() { p.node(s) })
	case Link:
		p.line(around, keyLink, func() { p.node(s) })
	case Dir:
		p.line(around, keyDir, func() { p.expr(&s.A) })
	case Copy:
		p.line(around, keyCopy, func() { p.node(s); p.say(", "); p.expr(&s.C) })
	case Fail:
		p.line(around, keyFail, func() { p.expr(&s.A) })
	case If:
		p.line(around, keyIf, func() { p.expr(&s.A) })
		p.steps(s.Body, around+1)
		if len(s.Else) > 0 {
			p.line(around, keyElse, nil)
			p.steps(s.Else, around+1)
		}
		p.line(around, keyEnd, nil)
	case For:
		p.line(around, keyFor, func() { p.say(s.Name, " = "); p.expr(&s.A); p.say(" ", keyTo, " "); p.expr(&s.B) })
		p.steps(s.Body, around+1)
		p.line(around, keyEnd, nil)
	default:
		p.line(around, unknown, nil)
	}
}

// node says two expressions with = between.
func (p *printer) node(s *Step) {
	p.expr(&s.A)
	p.say(" = ")
	p.expr(&s.B)
}

// expr says an expression.
func (p *printer) expr(x *Expr) {
	switch {
	case x.Kind == Num:
		p.say(numbers.Print(x.Num))
	case x.Kind == Text:
		p.quote(x.Text)
	case x.Kind == Name:
		p.say(x.Text)
	case x.Kind == Call:
		p.say(x.Text, "(")
		for i := range x.Args {
			if i > 0 {
				p.say(", ")
			}
			p.expr(&x.Args[i])
		}
		p.say(")")
	case x.Kind == Bin && len(x.Args) == 2:
		p.part(&x.Args[0])
		p.say(" ", x.Text, " ")
		p.part(&x.Args[1])
	case x.Kind == Not && len(x.Args) == 1:
		p.say(keyNot, " ")
		p.part(&x.Args[0])
	case x.Kind == Neg && len(x.Args) == 1:
		p.say("- ")
		p.part(&x.Args[0])
	default:
		p.say(unknown)
	}
}

// part says an expression that stands within another one, in ( and ) where these are needed.
func (p *printer) part(x *Expr) {
	if x.Kind != Bin && x.Kind != Not && x.Kind != Neg {
		p.expr(x)
		return
	}
	p.say("(")
	p.expr(x)
	p.say(")")
}

// quote says a text between two ".
func (p *printer) quote(s string) {
	if len(s) > api.MaxText {
		panic(tooLong{})
	}
	p.say(`"`, strings.NewReplacer("\n", `\n`, "\t", `\t`, `"`, `\"`, `\`, `\\`).Replace(s), `"`)
}
