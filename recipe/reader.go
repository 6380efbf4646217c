package recipe

import "strings"

// block is an if or a for that is open: its step, and whether its else was read.
type block struct {
	step   Step
	elsely bool
}

// reader reads a recipe, line by line: the row of tokens is that of the line under way.
type reader struct {
	row
	line  int
	steps []Step
	open  []block
}

// read reads a line.
func (r *reader) read(line string) {
	bare := strings.TrimLeft(line, " ")
	if bare == "" || bare[0] == '#' {
		return
	}
	r.row = row{tokens: scan(line)}
	t := r.next()
	must(t.kind == tokenKey)
	switch t.text {
	case keyIf, keyFor:
		must(len(r.open) < maxDepth)
		r.open = append(r.open, block{step: r.opening(t.text)})
	case keyElse:
		b := r.last()
		must(b != nil && b.step.Kind == If && !b.elsely)
		b.elsely = true
	case keyEnd:
		b := r.last()
		must(b != nil)
		step := b.step
		r.open = r.open[:len(r.open)-1]
		r.put(step)
	default:
		r.put(r.plain(t.text))
	}
	must(r.peek().kind == tokenEnd)
}

// last is the block that was opened last; nil, if none is open.
func (r *reader) last() *block {
	if len(r.open) == 0 {
		return nil
	}
	return &r.open[len(r.open)-1]
}

// put puts a step behind the others of its block.
func (r *reader) put(step Step) {
	b := r.last()
	switch {
	case b == nil:
		r.steps = append(r.steps, step)
	case b.elsely:
		b.step.Else = append(b.step.Else, step)
	default:
		b.step.Body = append(b.step.Body, step)
	}
}

// opening reads the rest of a line that opens a block.
func (r *reader) opening(key string) Step {
	if key == keyIf {
		return Step{Kind: If, A: r.expr()}
	}
	step := Step{Kind: For, Name: r.name()}
	r.needs(tokenSign, "=")
	step.A = r.expr()
	r.needs(tokenKey, keyTo)
	step.B = r.expr()
	return step
}

// plain reads the rest of a line that is a step by itself.
func (r *reader) plain(key string) Step {
	switch key {
	case keyLet:
		step := Step{Kind: Let, Name: r.name()}
		r.needs(tokenSign, "=")
		step.A = r.expr()
		return step
	case keyFile:
		return r.node(File)
	case keyExec:
		return r.node(Exec)
	case keyLink:
		return r.node(Link)
	case keyDir:
		return Step{Kind: Dir, A: r.expr()}
	case keyCopy:
		step := r.node(Copy)
		r.needs(tokenSign, ",")
		step.C = r.expr()
		return step
	case keyFail:
		return Step{Kind: Fail, A: r.expr()}
	}
	panic(noRecipe{})
}

// node reads two expressions with = between.
func (r *reader) node(kind uint8) Step {
	step := Step{Kind: kind, A: r.expr()}
	r.needs(tokenSign, "=")
	step.B = r.expr()
	return step
}

// expr reads an expression.
func (r *reader) expr() Expr { return r.or(0) }

// deeper tells the depth of what an opening one at a depth holds.
func deeper(depth int) int {
	must(depth < maxDepth)
	return depth + 1
}

// chain reads expressions with signs of one kind between: the ones ahead bind first.
func (r *reader) chain(depth int, part func(depth int) Expr, kind uint8, signs ...string) Expr {
	x := part(depth)
	for {
		sign, ok := r.takes(kind, signs...)
		if !ok {
			return x
		}
		x = Expr{Kind: Bin, Text: sign, Args: []Expr{x, part(depth)}}
	}
}

// or reads what binds least.
func (r *reader) or(depth int) Expr { return r.chain(depth, r.and, tokenKey, keyOr) }

// and reads what binds more than or.
func (r *reader) and(depth int) Expr { return r.chain(depth, r.not, tokenKey, keyAnd) }

// not reads what binds more than and.
func (r *reader) not(depth int) Expr {
	if _, ok := r.takes(tokenKey, keyNot); ok {
		return Expr{Kind: Not, Args: []Expr{r.not(deeper(depth))}}
	}
	x := r.join(depth)
	if sign, ok := r.takes(tokenSign, "==", "!=", "<", "<=", ">", ">="); ok {
		return Expr{Kind: Bin, Text: sign, Args: []Expr{x, r.join(depth)}}
	}
	return x
}

// join reads what binds more than what holds two against each other.
func (r *reader) join(depth int) Expr { return r.chain(depth, r.sum, tokenSign, "..") }

// sum reads what binds more than .. does.
func (r *reader) sum(depth int) Expr { return r.chain(depth, r.product, tokenSign, "+", "-") }

// product reads what binds more than + and - between two.
func (r *reader) product(depth int) Expr { return r.chain(depth, r.less, tokenSign, "*", "/") }

// less reads what binds more than * and /.
func (r *reader) less(depth int) Expr {
	if _, ok := r.takes(tokenSign, "-"); ok {
		return Expr{Kind: Neg, Args: []Expr{r.less(deeper(depth))}}
	}
	return r.single(depth)
}

// single reads what binds most.
func (r *reader) single(depth int) Expr {
	t := r.next()
	switch t.kind {
	case tokenNumber:
		return Expr{Kind: Num, Num: t.num}
	case tokenText:
		return Expr{Kind: Text, Text: t.text}
	case tokenName:
		if _, ok := r.takes(tokenSign, "("); ok {
			return Expr{Kind: Call, Text: t.text, Args: r.args(deeper(depth))}
		}
		return Expr{Kind: Name, Text: t.text}
	}
	must(t.kind == tokenSign && t.text == "(")
	x := r.or(deeper(depth))
	r.needs(tokenSign, ")")
	return x
}

// args reads what a call is given, and the ) behind it.
func (r *reader) args(depth int) []Expr {
	var l []Expr
	if _, ok := r.takes(tokenSign, ")"); ok {
		return l
	}
	for {
		l = append(l, r.or(depth))
		if sign, _ := r.takes(tokenSign, ",", ")"); sign != "," {
			must(sign == ")")
			return l
		}
	}
}
