package refdb

import (
	"iter"
	"strings"

	"tithebarn/naming"
)

// What the keys begin with, and the one key that stands alone.
const (
	objectPrefix = "o"
	edgePrefix   = "e"
	backPrefix   = "r"
	rootPrefix   = "x"
	genPrefix    = "g"
	currentKey   = "c"
	between      = "/" // between two objects of a key
)

// pageRows is how many rows are asked of the table at once.
const pageRows = 200

// objectKey is a valid object's key.
func objectKey(object string) string { return objectPrefix + object }

// edgeKey is the key of a reference from one object to another one.
func edgeKey(from, to string) string { return edgePrefix + from + between + to }

// backKey is the same reference's other key, by which it is found from behind.
func backKey(to, from string) string { return backPrefix + to + between + from }

// rootKey is a root's key.
func rootKey(name string) string { return rootPrefix + name }

// genKey is a generation's key.
func genKey(n int64) string { return genPrefix + string(number(n)) }

// number tells a number's 8 bytes.
func number(n int64) []byte {
	b := make([]byte, 8)
	for i := range b {
		b[7-i] = byte(n >> (8 * i))
	}
	return b
}

// readNumber tells the number of 8 bytes, and whether these are so many.
func readNumber(b []byte) (int64, bool) {
	if len(b) != 8 {
		return 0, false
	}
	n := int64(0)
	for _, c := range b {
		n = n<<8 | int64(c)
	}
	return n, true
}

// above tells the least text above all that begin with a prefix, whose last byte is below 255; none (empty) is above all that begin with nothing.
func above(prefix string) string {
	if prefix == "" {
		return ""
	}
	last := len(prefix) - 1
	return prefix[:last] + string([]byte{prefix[last] + 1})
}

// rows goes over the keys that begin with a prefix, and their values, rising.
func (b *Base) rows(prefix string) iter.Seq2[string, []byte] {
	return func(yield func(string, []byte) bool) {
		from, to := prefix, above(prefix)
	page:
		l := b.Range(from, to, pageRows)
		for _, row := range l {
			if !yield(row.Key, row.Value) {
				return
			}
			from = row.Key + "\x00" // the least text above it
		}
		if len(l) == pageRows {
			goto page
		}
	}
}

// tails tells what stands behind a prefix in the keys that begin with it, rising.
func (b *Base) tails(prefix string) []string {
	if b == nil {
		return nil
	}
	var l []string
	for key := range b.rows(prefix) {
		l = append(l, key[len(prefix):])
	}
	return l
}

// right: may a key be in a base, with that value, and all that belongs to it?
func (b *Base) right(key string, value []byte) bool {
	tail := key[1:]
	switch key[:1] {
	case objectPrefix:
		return named(tail) && len(value) <= MaxDeriver
	case edgePrefix:
		from, to, _ := strings.Cut(tail, between)
		return len(value) == 0 && b.edge(from, to)
	case backPrefix:
		to, from, _ := strings.Cut(tail, between)
		return len(value) == 0 && b.edge(from, to)
	case rootPrefix:
		return naming.Right(tail) && named(string(value)) && b.valid(string(value))
	case genPrefix:
		n, ok := readNumber([]byte(tail))
		return ok && n >= 1 && n <= MaxGen
	case currentKey:
		n, ok := readNumber(value)
		return ok && tail == "" && b.there(n)
	}
	return false
}

// edge: do two objects stand by both keys of a reference, and are they valid?
func (b *Base) edge(from, to string) bool {
	_, ahead := b.Get(edgeKey(from, to))
	_, back := b.Get(backKey(to, from))
	return ahead && back && named(from, to) && b.valid(from, to)
}
