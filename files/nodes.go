package files

import (
	"iter"
	"strings"

	"tithebarn/api"
)

// wrong is what Right gives up with where a tree may not be.
type wrong struct{}

// must gives up, unless something holds.
func must(holds bool) {
	if !holds {
		panic(wrong{})
	}
}

// spot is a node, how deep it lies, and the name of the entry that leads to it.
type spot struct {
	depth int
	name  string
	node  *api.Node
}

// nodes goes through all nodes of a tree, each ahead of those below it, entries in their order.
// It keeps the way by itself: a tree made by hand may be deeper than calls can be.
func nodes(n api.Node) iter.Seq[spot] {
	return func(yield func(spot) bool) {
		if !yield(spot{0, "", &n}) {
			return
		}
		way := [][]api.Entry{n.Entries} // what is left of each Dir on the way
		for len(way) > 0 {
			left := way[len(way)-1]
			if len(left) == 0 {
				way = way[:len(way)-1]
				continue
			}
			way[len(way)-1] = left[1:]
			next := &left[0]
			if !yield(spot{len(way), next.Name, &next.Node}) {
				return
			}
			way = append(way, next.Node.Entries)
		}
	}
}

// mayBe gives up, unless a node may be, apart from those below it.
func mayBe(n *api.Node) {
	switch n.Kind {
	case api.File, api.Exec:
		must(len(n.Data) <= api.MaxFile && len(n.Entries) == 0)
	case api.Link:
		must(n.Data != "" && len(n.Data) <= api.MaxLink && len(n.Entries) == 0)
		must(!strings.Contains(n.Data, "\x00"))
	case api.Dir:
		must(n.Data == "")
		last := ""
		for i := range n.Entries {
			name := n.Entries[i].Name
			must(name > last && Name(name))
			last = name
		}
	default:
		panic(wrong{})
	}
}
