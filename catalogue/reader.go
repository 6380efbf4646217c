package catalogue

import (
	"iter"
	"strings"

	"tithebarn/api"
	"tithebarn/naming"
	"tithebarn/version"
)

// lines goes through a text's lines; behind the last end, where nothing stands, there is none.
func lines(s string) iter.Seq[string] {
	return func(yield func(string) bool) {
		for s != "" {
			line, rest, _ := strings.Cut(s, end)
			if !yield(line) {
				return
			}
			s = rest
		}
	}
}

// words goes through what stands between a text's blanks.
func words(s string) iter.Seq[string] {
	return func(yield func(string) bool) {
		rest, more := s, true
		for more {
			var word string
			word, rest, more = strings.Cut(rest, blank)
			if !yield(word) {
				return
			}
		}
	}
}

// first tells a line's first word, and what stands behind it.
func first(line string) (string, string) {
	if rest, ok := strings.CutPrefix(line, bar); ok {
		return bar, rest
	}
	word, rest, _ := strings.Cut(line, blank)
	return word, rest
}

// two tells two words with one blank between them, and whether these are such.
func two(s string) (string, string, bool) {
	a, b, ok := strings.Cut(s, blank)
	return a, b, ok && a != "" && b != "" && !strings.Contains(b, blank)
}

// reader reads a catalogue's lines; the last variant's recipe is not in the list till it is closed.
type reader struct {
	list   []api.Variant
	seen   map[key]struct{}
	recipe []byte
}

// kinds tells what reads a line, by its first word.
func (r *reader) kinds() map[string]func(string) api.Errno {
	return map[string]func(string) api.Errno{
		packageWord:   r.pack,
		needsWord:     r.needs,
		conflictsWord: r.conflicts,
		bar:           r.line,
	}
}

// last is the variant to which lines belong; nil, ahead of the first one.
func (r *reader) last() *api.Variant {
	if len(r.list) == 0 {
		return nil
	}
	return &r.list[len(r.list)-1]
}

// close gives the last variant its recipe.
func (r *reader) close() {
	if v := r.last(); v != nil {
		v.Recipe = string(r.recipe)
	}
	r.recipe = nil
}

// pack reads a package's line.
func (r *reader) pack(rest string) api.Errno {
	name, number, ok := two(rest)
	_, e := version.Parse(number)
	if !ok || !naming.Right(name) || e != api.OK || len(r.list) == maxVariants {
		return api.ErrLine
	}
	k := key{name, number}
	if _, twice := r.seen[k]; twice {
		return api.ErrTwice
	}
	r.seen[k] = struct{}{}
	r.close()
	r.list = append(r.list, api.Variant{Name: name, Version: number})
	return api.OK
}

// needs reads a line of a need.
func (r *reader) needs(rest string) api.Errno {
	v := r.last()
	if v == nil {
		return api.ErrLine
	}
	return addNeed(&v.Needs, rest)
}

// conflicts reads a line of a conflict.
func (r *reader) conflicts(rest string) api.Errno {
	v := r.last()
	if v == nil {
		return api.ErrLine
	}
	return addNeed(&v.Conflicts, rest)
}

// addNeed puts the need of a text behind others, if it may be, and there is room.
func addNeed(l *[]api.Need, rest string) api.Errno {
	name, text, ok := two(rest)
	n, may := need(name, text)
	if !ok || !may || len(*l) == maxNeeds {
		return api.ErrLine
	}
	*l = append(*l, n)
	return api.OK
}

// line reads a line of a recipe.
func (r *reader) line(rest string) api.Errno {
	if r.last() == nil {
		return api.ErrLine
	}
	r.recipe = append(r.recipe, rest+end...)
	return api.OK
}
