package console

import "strings"

// noLine is what a line that is none gives up with, ahead of doing anything.
type noLine struct{}

// maxNumber is the greatest number, and less it the least one.
const maxNumber = 999999999

// args are a line's words that were not read yet.
type args struct {
	words []string
}

// word reads the next word.
func (a *args) word() string {
	if len(a.words) == 0 || a.words[0] == "" {
		panic(noLine{})
	}
	s := a.words[0]
	a.words = a.words[1:]
	return s
}

// number reads the next word, which has to be a number.
func (a *args) number() int {
	s := a.word()
	if s == "0" {
		return 0
	}
	digits, below := strings.CutPrefix(s, "-")
	n := 0
	for i := range len(digits) {
		c := digits[i]
		if c < '0' || c > '9' || i == 0 && c == '0' || n > maxNumber {
			panic(noLine{})
		}
		n = 10*n + int(c-'0')
	}
	if n == 0 || n > maxNumber {
		panic(noLine{})
	}
	if below {
		return -n
	}
	return n
}

// rest reads all words that are left.
func (a *args) rest() []string {
	var l []string
	for len(a.words) > 0 {
		l = append(l, a.word())
	}
	return l
}

// numbers reads all words that are left, which have to be numbers.
func (a *args) numbers() []int {
	var l []int
	for len(a.words) > 0 {
		l = append(l, a.number())
	}
	return l
}

// end is there, if no word is left.
func (a *args) end() {
	if len(a.words) > 0 {
		panic(noLine{})
	}
}
