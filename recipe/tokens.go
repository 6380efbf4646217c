package recipe

import (
	"strings"

	"tithebarn/api"
	"tithebarn/numbers"
)

// noRecipe is what the reader gives up with in a line that is none.
type noRecipe struct{}

// must gives up, unless something holds.
func must(holds bool) {
	if !holds {
		panic(noRecipe{})
	}
}

// What a token is.
const (
	tokenEnd    uint8 = 0 // none: the line's end
	tokenName   uint8 = 1
	tokenKey    uint8 = 2
	tokenNumber uint8 = 3
	tokenText   uint8 = 4
	tokenSign   uint8 = 5
)

// token is a token: of a number its size, of a text what it says, of all others how it is written.
type token struct {
	kind uint8
	text string
	num  float64
}

// row is a line's tokens, and how many of them were read.
type row struct {
	tokens []token
	at     int
}

// peek tells the next token.
func (r *row) peek() token {
	if r.at == len(r.tokens) {
		return token{}
	}
	return r.tokens[r.at]
}

// next reads the next token.
func (r *row) next() token {
	t := r.peek()
	if t.kind != tokenEnd {
		r.at++
	}
	return t
}

// takes reads the next token, if it is of a kind, and one of these, and tells which.
func (r *row) takes(kind uint8, texts ...string) (string, bool) {
	t := r.peek()
	if t.kind != kind {
		return "", false
	}
	for _, text := range texts {
		if t.text == text {
			r.at++
			return text, true
		}
	}
	return "", false
}

// needs reads a token that has to be there.
func (r *row) needs(kind uint8, text string) {
	_, ok := r.takes(kind, text)
	must(ok)
}

// name reads a name that has to be there.
func (r *row) name() string {
	t := r.next()
	must(t.kind == tokenName)
	return t.text
}

// letter: is it one from a to z?
func letter(c byte) bool { return 'a' <= c && c <= 'z' }

// digit: is it one?
func digit(c byte) bool { return '0' <= c && c <= '9' }

// span tells how many bytes from a place on are such.
func span(s string, from int, such func(c byte) bool) int {
	n := 0
	for from+n < len(s) && such(s[from+n]) {
		n++
	}
	return n
}

// scan tells a line's tokens.
func scan(line string) []token {
	var l []token
	glued := false // a number, or a name, ends here: no other one may begin
	for i := 0; i < len(line); {
		c := line[i]
		if c == ' ' {
			glued = false
			i++
			continue
		}
		t, n := first(line[i:])
		word := t.kind != tokenText && t.kind != tokenSign
		must(!word || !glued)
		glued = word
		l = append(l, t)
		i += n
	}
	return l
}

// first tells the token with which a text begins, and how many bytes it has.
func first(s string) (token, int) {
	switch {
	case letter(s[0]):
		n := span(s, 0, func(c byte) bool { return letter(c) || digit(c) || c == '_' })
		if Key(s[:n]) {
			return token{kind: tokenKey, text: s[:n]}, n
		}
		return token{kind: tokenName, text: s[:n]}, n
	case digit(s[0]):
		n := numberLen(s)
		x, e := numbers.Parse(s[:n])
		must(e == api.OK)
		return token{kind: tokenNumber, num: x}, n
	case s[0] == '"':
		return textToken(s)
	}
	n := signLen(s)
	return token{kind: tokenSign, text: s[:n]}, n
}

// numberLen tells how many bytes the number has with which a text begins.
func numberLen(s string) int {
	n := span(s, 0, digit)
	rest, ok := strings.CutPrefix(s[n:], "p")
	if !ok {
		return n
	}
	rest = strings.TrimPrefix(rest, "-")
	behind := span(rest, 0, digit)
	if behind == 0 {
		return n
	}
	return len(s) - len(rest) + behind
}

// signLen tells how many bytes the longest sign has with which a text begins.
func signLen(s string) int {
	if len(s) > 1 {
		switch s[:2] {
		case "==", "!=", "<=", ">=", "..":
			return 2
		}
	}
	must(strings.IndexByte("(),=<>+-*/", s[0]) >= 0)
	return 1
}

// textToken tells the text token with which a text begins, and how many bytes it has.
func textToken(s string) (token, int) {
	var b []byte
	for i := 1; i < len(s); i++ {
		c := s[i]
		switch {
		case c == '"':
			return token{kind: tokenText, text: string(b)}, i + 1
		case c == '\\':
			i++
			must(i < len(s))
			b = append(b, escaped(s[i]))
		default:
			must(c >= 32)
			b = append(b, c)
		}
	}
	panic(noRecipe{})
}

// escaped tells the byte that a byte behind \ stands for.
func escaped(c byte) byte {
	switch c {
	case 'n':
		return '\n'
	case 't':
		return '\t'
	}
	must(c == '"' || c == '\\')
	return c
}
