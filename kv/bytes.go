package kv

import "tithebarn/fields"

const (
	countLen  = 4         // how many changes, or keys
	changeLen = 1 + 2 + 4 // what a change has besides its key and value
)

// notBytes is what a reader gives up with where bytes are none of a batch, or a table.
type notBytes struct{}

// rightKey: is it a key?
func rightKey(key string) bool { return key != "" && len(key) <= MaxKey }

// putRow puts a key and a value behind.
func putRow(w *fields.Writer, key string, value []byte) {
	w.Short(uint16(len(key)))
	w.Raw([]byte(key))
	w.Word(uint32(len(value)))
	w.Raw(value)
}

// batchBytes tells a batch's bytes.
func batchBytes(l []Op) []byte {
	var w fields.Writer
	w.Word(uint32(len(l)))
	for _, op := range l {
		if op.Gone {
			w.Byte(1)
			putRow(&w, op.Key, nil)
		} else {
			w.Byte(0)
			putRow(&w, op.Key, op.Value)
		}
	}
	return w.Out()
}

// must gives up, unless something holds.
func must(holds bool) {
	if !holds {
		panic(notBytes{})
	}
}

// readable does something that reads bytes, and tells whether it did not give up; any other panic goes on.
func readable(do func()) (ok bool) {
	defer func() {
		if v := recover(); v != nil {
			_ = v.(notBytes)
			ok = false
		}
	}()
	do()
	return true
}

// getRow reads a key and a value.
func getRow(r *fields.Reader) Pair {
	key := string(r.Raw(int(r.Short())))
	value := r.Raw(int(r.Word()))
	must(!r.Bad() && rightKey(key) && len(value) <= MaxValue)
	return Pair{key, value}
}

// readBatch tells the batch of bytes, and whether they are one's.
func readBatch(b []byte) ([]Op, bool) {
	var l []Op
	ok := readable(func() {
		r := fields.Open(b)
		for range r.Word() {
			gone := r.Byte()
			row := getRow(r)
			must(gone == 0 || gone == 1 && len(row.Value) == 0)
			l = append(l, Op{row.Key, row.Value, gone == 1})
		}
		must(!r.Bad() && r.Left() == 0)
	})
	return l, ok
}

// readTable tells the rows of a table's bytes, and whether they are one's.
func readTable(b []byte) ([]Pair, bool) {
	var l []Pair
	ok := readable(func() {
		r := fields.Open(b)
		last := ""
		for range r.Word() {
			row := getRow(r)
			must(row.Key > last)
			last = row.Key
			l = append(l, row)
		}
		must(!r.Bad() && r.Left() == 0)
	})
	return l, ok
}
