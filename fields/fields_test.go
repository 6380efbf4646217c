package fields

import (
	"bytes"
	"math"
	"testing"
)

// P3.1
func TestWriter(t *testing.T) {
	var w Writer
	if len(w.Out()) != 0 {
		t.Fatal("the zero one has bytes")
	}
	w.Byte(1)
	w.Short(2)
	w.Word(0xFF)
	w.Raw([]byte{7})
	if !bytes.Equal(w.Out(), []byte{1, 0, 2, 0, 0, 0, 0xFF, 7}) {
		t.Fatalf("%x", w.Out())
	}
	w.Raw(nil)
	w.Long(0x0102030405060708)
	if !bytes.Equal(w.Out()[8:], []byte{1, 2, 3, 4, 5, 6, 7, 8}) {
		t.Fatalf("%x", w.Out())
	}
	var none *Writer
	none.Byte(1)
	none.Short(1)
	none.Word(1)
	none.Long(1)
	none.Raw([]byte{1})
	if len(none.Out()) != 0 {
		t.Fatal("a nil one tells something")
	}
}

// P3.2
func TestReader(t *testing.T) {
	r := Open([]byte{1, 2, 3})
	if r.Short() != 0x0102 || r.Left() != 1 || r.Bad() || r.Short() != 0 || !r.Bad() || r.Left() != 0 || r.Byte() != 0 {
		t.Fatal("the document's example")
	}
	r = Open([]byte{1})
	if len(r.Raw(0)) != 0 || r.Bad() || len(r.Raw(-1)) != 0 || !r.Bad() || r.Left() != 0 || r.Byte() != 0 || len(r.Raw(0)) != 0 {
		t.Fatal("Raw of less than nothing")
	}
	for _, n := range []int{2, math.MaxInt, math.MinInt} {
		if r = Open([]byte{1}); len(r.Raw(n)) != 0 || !r.Bad() {
			t.Fatalf("Raw(%d)", n)
		}
	}
	var none *Reader
	if !none.Bad() || none.Left() != 0 || none.Byte() != 0 || none.Short() != 0 || none.Word() != 0 || none.Long() != 0 || len(none.Raw(1)) != 0 {
		t.Fatal("a nil reader")
	}
	if r = Open(nil); r.Bad() || r.Left() != 0 || r.Long() != 0 || !r.Bad() {
		t.Fatal("a reader of nothing")
	}
	if r = Open([]byte{1, 2, 3, 4, 5, 6, 7}); r.Long() != 0 || r.Left() != 0 || r.Word() != 0 {
		t.Fatal("a bad reader goes on")
	}
}

// P3.3
func TestCopies(t *testing.T) {
	b := []byte{1, 2, 3, 4}
	var w Writer
	w.Raw(b[:2])
	r := Open(b)
	b[0] = 9
	if w.Out()[0] != 1 || r.Byte() != 1 {
		t.Fatal("what is handed in is kept")
	}
	o := w.Out()
	o[0] = 8
	if w.Out()[0] != 1 {
		t.Fatal("Out is the writer's memory")
	}
	x := r.Raw(1)
	x = append(x[:0], 7, 7, 7)
	if r.Byte() != 3 || x[0] != 7 || !bytes.Equal(b, []byte{9, 2, 3, 4}) {
		t.Fatal("Raw is the reader's memory")
	}
}

// P3.4
func TestFollows(t *testing.T) {
	for _, n := range []uint64{0, 1, 0x80, 0xFF, 0x8000, 0xFFFF, 0x80000000, 0xFFFFFFFF, 1 << 63, math.MaxUint64, 0x123456789ABCDEF0} {
		var w Writer
		w.Raw([]byte("ahead"))
		w.Byte(uint8(n))
		w.Short(uint16(n))
		w.Word(uint32(n))
		w.Long(n)
		w.Raw([]byte("behind"))
		r := Open(w.Out())
		if string(r.Raw(5)) != "ahead" || r.Byte() != uint8(n) || r.Short() != uint16(n) || r.Word() != uint32(n) || r.Long() != n || r.Left() != 6 || string(r.Raw(6)) != "behind" || r.Bad() || r.Left() != 0 {
			t.Fatalf("%x", n)
		}
	}
}
