package crc

import (
	"hash/crc32"
	"testing"
)

// slow is Step by the document's words, bit by bit.
func slow(r uint32, c byte) uint32 {
	for i := range 8 {
		differ := (r^uint32(c)>>i)&1 == 1
		r >>= 1
		if differ {
			r ^= 0xEDB88320
		}
	}
	return r
}

func rows() []uint32 {
	l := []uint32{0, 1, 0x80000000, 0xFFFFFFFF, 0xEDB88320, 255, 256}
	for x := uint32(3); len(l) < 60; x = x*1664525 + 1013904223 {
		l = append(l, x)
	}
	return l
}

// P1.1
func TestStep(t *testing.T) {
	if Step(0, 1) != 0x77073096 || Step(1, 1) != 0 || Step(0xFFFFFFFF, 0) != 0x2DFD1072 {
		t.Fatal("the document's examples")
	}
	for _, r := range rows() {
		for c := range 256 {
			if Step(r, byte(c)) != slow(r, byte(c)) {
				t.Fatalf("Step(%x, %x) = %x", r, c, Step(r, byte(c)))
			}
		}
	}
}

// P1.1, Ways: the array and the function answer alike for all bytes; what is told of the array is new memory.
func TestSteps(t *testing.T) {
	l := Steps()
	for c := range 256 {
		if l[c] != Step(0, byte(c)) || l[c] != slow(0, byte(c)) {
			t.Errorf("%x: %x, %x", c, l[c], Step(0, byte(c)))
		}
		for _, r := range rows() {
			if Step(r, byte(c)) != l[byte(r)^byte(c)]^r>>8 {
				t.Fatalf("Step(%x, %x) = %x", r, c, Step(r, byte(c)))
			}
		}
	}
	was := l
	clear(l[:])
	if Steps() != was {
		t.Error("what was told is kept")
	}
}

// Ways: the array is made once, and Step and Sum do without it.
func TestWithoutSteps(t *testing.T) {
	was := Steps()
	defer func() { steps = was }()
	steps = [256]uint32{7: 7}
	if Steps() != steps {
		t.Error("made again")
	}
	for c := range 256 {
		if Step(0, byte(c)) != was[c] || Sum([]byte{byte(c)}) != crc32.ChecksumIEEE([]byte{byte(c)}) {
			t.Fatalf("%x: %x", c, Step(0, byte(c)))
		}
	}
	if Sum([]byte("123456789")) != 0xCBF43926 || steps != [256]uint32{7: 7} {
		t.Error("asked of, or made again")
	}
}

// P1.2
func TestSum(t *testing.T) {
	for s, want := range map[string]uint32{"123456789": 0xCBF43926, "": 0, "\x00": 0xD202EF8D} {
		if Sum([]byte(s)) != want {
			t.Errorf("%q: %x", s, Sum([]byte(s)))
		}
	}
	if Sum(nil) != 0 {
		t.Error("nil")
	}
	b := make([]byte, 3000)
	for i := range b {
		b[i] = byte(i * i >> 3)
		if Sum(b[:i]) != crc32.ChecksumIEEE(b[:i]) {
			t.Fatalf("length %d", i)
		}
	}
}

// P1.3
func TestReadOnly(t *testing.T) {
	b := []byte("abcdef")
	Sum(b[:3])
	if string(b) != "abcdef" {
		t.Fatal(string(b))
	}
}

// P1.4
func TestFollows(t *testing.T) {
	l := rows()
	seen := map[uint32]bool{}
	for i, r := range l {
		q, c, d := l[(i+1)%len(l)], byte(i*7), byte(i*31+5)
		if Step(r^q, c^d) != Step(r, c)^Step(q, d) {
			t.Fatal("put together")
		}
		if seen[Step(r, 9)] {
			t.Fatal("two registers become one")
		}
		seen[Step(r, 9)] = true
	}
	for c := 1; c < 256; c++ {
		if Step(77, byte(c)) == Step(77, 0) {
			t.Fatal("two bytes become one")
		}
	}
	// bits that differ within 32 make other sums
	b := make([]byte, 24)
	sum := Sum(b)
	for at := range len(b)*8 - 32 {
		for _, w := range l[1:] {
			o := make([]byte, len(b))
			for k := range 32 {
				if w>>k&1 == 1 {
					o[(at+k)/8] ^= 1 << ((at + k) % 8)
				}
			}
			if Sum(o) == sum {
				t.Fatalf("at %d, %x", at, w)
			}
		}
	}
}
