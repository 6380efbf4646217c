package kv

import (
	"iter"
	"slices"
	"sort"

	"tithebarn/fields"
)

// pageRows is how many rows a page has at most.
const pageRows = 128

// pages hold rows by their keys, rising: each page has one at least, and all of a page's are below those of the next one.
type pages struct {
	list  [][]Pair
	count int
}

// spot tells where a key stands, or would stand: the page, the place in it, and whether it is there.
func (p *pages) spot(key string) (int, int, bool) {
	at := sort.Search(len(p.list), func(i int) bool {
		rows := p.list[i]
		return rows[len(rows)-1].Key >= key
	})
	if at == len(p.list) {
		return at, 0, false
	}
	rows := p.list[at]
	i := sort.Search(len(rows), func(i int) bool { return rows[i].Key >= key })
	return at, i, rows[i].Key == key
}

// get tells a key's value.
func (p *pages) get(key string) ([]byte, bool) {
	at, i, ok := p.spot(key)
	if !ok {
		return nil, false
	}
	return p.list[at][i].Value, true
}

// put puts a key to a copy of a value.
func (p *pages) put(key string, value []byte) {
	row := Pair{key, append([]byte(nil), value...)}
	at, i, ok := p.spot(key)
	if ok {
		p.list[at][i] = row
		return
	}
	p.count++
	if len(p.list) == 0 {
		p.list = [][]Pair{{row}}
		return
	}
	if at == len(p.list) { // above all: it goes to the last page's end
		at--
		i = len(p.list[at])
	}
	p.list[at] = slices.Insert(p.list[at], i, row)
	if len(p.list[at]) > pageRows {
		p.split(at)
	}
}

// split makes two pages of one.
func (p *pages) split(at int) {
	rows := p.list[at]
	half := len(rows) / 2
	behind := append([]Pair(nil), rows[half:]...)
	clear(rows[half:]) // else the first page would hold their values
	p.list[at] = rows[:half:half]
	p.list = slices.Insert(p.list, at+1, behind)
}

// remove takes a key away, if it is there.
func (p *pages) remove(key string) {
	at, i, ok := p.spot(key)
	if !ok {
		return
	}
	p.count--
	p.list[at] = slices.Delete(p.list[at], i, i+1)
	if len(p.list[at]) == 0 {
		p.list = slices.Delete(p.list, at, at+1)
	}
}

// from goes over the rows whose keys are not below one, rising.
func (p *pages) from(key string) iter.Seq[Pair] {
	return func(yield func(Pair) bool) {
		at, i, _ := p.spot(key)
		for ; at < len(p.list); at++ {
			for _, row := range p.list[at][i:] {
				if !yield(row) {
					return
				}
			}
			i = 0
		}
	}
}

// save tells the bytes of all rows.
func (p *pages) save() []byte {
	var w fields.Writer
	w.Word(uint32(p.count))
	for row := range p.from("") {
		putRow(&w, row.Key, row.Value)
	}
	return w.Out()
}
