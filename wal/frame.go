package wal

import (
	"iter"

	"tithebarn/crc"
	"tithebarn/fields"
)

const (
	headLen  = 13          // what stands ahead of a frame's bytes
	frameLen = headLen + 4 // and their check behind them
	maxGen   = 1 << 62     // the greatest generation
)

// notFramed is what a reader gives up with where bytes are no frame.
type notFramed struct{}

// frame tells the frame of bytes: their kind, a number, how many, themselves, the check of all that.
func frame(kind byte, n uint64, b []byte) []byte {
	var w fields.Writer
	w.Byte(kind)
	w.Long(n)
	w.Word(uint32(len(b)))
	w.Raw(b)
	var check fields.Writer
	check.Word(crc.Sum(w.Out()))
	w.Raw(check.Out())
	return w.Out()
}

// unframe tells the number, and the bytes, of the frame with which b begins; it panics, if there is none.
func unframe(b []byte, kind byte, most uint32) (uint64, []byte) {
	r := fields.Open(b[:min(headLen, len(b))])
	read, n, size := r.Byte(), r.Long(), r.Word()
	if r.Bad() || read != kind || size > most || uint64(size)+frameLen > uint64(len(b)) {
		panic(notFramed{})
	}
	end := headLen + int(size)
	check := fields.Open(b[end : end+4])
	if check.Word() != crc.Sum(b[:end]) {
		panic(notFramed{})
	}
	return n, append([]byte(nil), b[headLen:end]...)
}

// framed does something that reads frames, and tells whether it did not give up; any other panic goes on.
func framed(do func()) (ok bool) {
	defer func() {
		if v := recover(); v != nil {
			_ = v.(notFramed)
			ok = false
		}
	}()
	do()
	return true
}

// readState tells the generation and the state of a state's file, and whether it is one.
func readState(b []byte) (int64, []byte, bool) {
	var n uint64
	var state []byte
	ok := framed(func() { n, state = unframe(b, 'K', 1<<32-1) })
	if !ok || len(b) != frameLen+len(state) || n < 1 || n > maxGen {
		return 0, nil, false
	}
	return int64(n), state, true
}

// record tells the record with which b begins, and whether it is that of a number.
func record(b []byte, number uint64) ([]byte, bool) {
	var n uint64
	var bytes []byte
	ok := framed(func() { n, bytes = unframe(b, 'R', MaxRecord) })
	if !ok || n != number {
		return nil, false
	}
	return bytes, true
}

// records tells the records that stand in bytes, from the first one on, as long as there are such.
func records(b []byte) iter.Seq[[]byte] {
	return func(yield func([]byte) bool) {
		rest := b
		for number := uint64(1); ; number++ {
			next, ok := record(rest, number)
			if !ok || !yield(next) {
				return
			}
			rest = rest[frameLen+len(next):]
		}
	}
}
