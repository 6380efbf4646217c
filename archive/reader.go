package archive

import "tithebarn/api"

// noArchive is what a reader gives up with.
type noArchive struct{}

// must gives up, unless something holds.
func must(holds bool) {
	if !holds {
		panic(noArchive{})
	}
}

// reader reads an archive's bytes: what is left of them, and how many nodes it has read.
type reader struct {
	rest  string
	nodes int
}

// take tells the next n bytes.
func (r *reader) take(n int) string {
	must(n <= len(r.rest))
	s := r.rest[:n]
	r.rest = r.rest[n:]
	return s
}

// number reads a number of so many bytes.
func (r *reader) number(width int) int {
	n := 0
	for _, c := range []byte(r.take(width)) {
		n = n<<8 | int(c)
	}
	return n
}

// text reads a text; it is memory of its own, that it may not hold the whole archive's.
func (r *reader) text() string {
	return string([]byte(r.take(r.number(4))))
}

// node reads a node that lies at a depth; one that no right tree has is given up at once.
func (r *reader) node(depth int) api.Node {
	r.nodes++
	must(depth <= api.MaxDeep && r.nodes <= api.MaxNodes)
	switch r.take(1) {
	case "F":
		return api.Node{Kind: api.File, Data: r.text()}
	case "X":
		return api.Node{Kind: api.Exec, Data: r.text()}
	case "L":
		return api.Node{Kind: api.Link, Data: r.text()}
	case "D":
		return api.Node{Kind: api.Dir, Entries: r.entries(depth)}
	}
	panic(noArchive{})
}

// entries reads the entries of a Dir that lies at a depth.
func (r *reader) entries(depth int) []api.Entry {
	var l []api.Entry
	for range r.number(2) {
		name := r.text()
		l = append(l, api.Entry{Name: name, Node: r.node(depth + 1)})
	}
	return l
}
