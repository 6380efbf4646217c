package sha

import (
	"bytes"
	"crypto/sha256"
	"strings"
	"testing"

	"tithebarn/api"
)

func some(n int) []byte {
	b := make([]byte, n)
	for i := range b {
		b[i] = byte(i*i + i>>4)
	}
	return b
}

// P2.1
func TestPad(t *testing.T) {
	p := Pad(3)
	if len(p) != 61 || p[0] != 0x80 || p[60] != 0x18 || !bytes.Equal(p[1:60], make([]byte, 59)) {
		t.Fatalf("Pad(3): %x", p)
	}
	if len(Pad(56)) != 72 || len(Pad(55)) != 9 || len(Pad(0)) != 64 || len(Pad(64)) != 64 {
		t.Fatal("lengths")
	}
	// the number of bits is modulo 2^64
	p = Pad(1<<61 + 1)
	if !bytes.Equal(p[len(p)-8:], []byte{0, 0, 0, 0, 0, 0, 0, 8}) {
		t.Fatalf("2^61 + 1: %x", p)
	}
	for _, n := range []uint64{1<<64 - 1, 1<<64 - 9, 1<<64 - 8, 1<<64 - 10} {
		p = Pad(n)
		if len(p) < 9 || len(p) > 72 || (n%64+uint64(len(p)))%64 != 0 {
			t.Fatalf("%d: %d bytes", n, len(p))
		}
	}
}

// P2.2, P2.6
func TestBlock(t *testing.T) {
	for n := range 200 {
		b := some(n)
		all := append(append([]byte{}, b...), Pad(uint64(n))...)
		if len(all)%64 != 0 {
			t.Fatal("not blocks alone")
		}
		chain := first
		for i := 0; i < len(all); i += 64 {
			chain = Block(chain, [64]byte(all[i:]))
		}
		var d api.Digest
		for i := range d {
			d[i] = byte(chain[i/4] >> (24 - 8*(i%4)))
		}
		if d != Sum(b) {
			t.Fatalf("length %d", n)
		}
	}
	chain := first
	Block(chain, [64]byte{1})
	if chain != first {
		t.Fatal("the chain that was handed in")
	}
}

// P2.3
func TestSum(t *testing.T) {
	if s := Hex(Sum([]byte("abc"))); s != strings.ToLower("BA7816BF8F01CFEA414140DE5DAE2223B00361A396177A9CB410FF61F20015AD") {
		t.Fatal(s)
	}
	if s := Hex(Sum(nil)); s != strings.ToLower("E3B0C44298FC1C149AFBF4C8996FB92427AE41E4649B934CA495991B7852B855") {
		t.Fatal(s)
	}
	for n := range 400 {
		if Sum(some(n)) != api.Digest(sha256.Sum256(some(n))) {
			t.Fatalf("length %d", n)
		}
	}
	if Sum(some(100001)) != api.Digest(sha256.Sum256(some(100001))) {
		t.Fatal("a long one")
	}
}

// P2.4, P2.6
func TestText(t *testing.T) {
	for n := range 300 {
		d := Sum(some(n))
		s := Hex(d)
		if r, ok := Read(s); r != d || !ok || len(s) != 64 || strings.Trim(s, "0123456789abcdef") != "" {
			t.Fatal(s)
		}
	}
	good := Hex(Sum([]byte("x")))
	wrong := []string{"", good[1:], good + "0", strings.ToUpper(good), "g" + good[1:], good[:63] + " ", good[:63] + "\x00", good[:31] + "é" + good[33:], "/" + good[1:], ":" + good[1:], "`" + good[1:]}
	for _, s := range wrong {
		if d, ok := Read(s); ok || d != (api.Digest{}) {
			t.Errorf("%q is read", s)
		}
	}
}

// P2.5
func TestReadOnly(t *testing.T) {
	b := some(200)
	Sum(b[:100])
	if !bytes.Equal(b, some(200)) {
		t.Fatal("what is handed in is changed")
	}
	p := Pad(3)
	p[0] = 1
	if Pad(3)[0] != 0x80 {
		t.Fatal("what is answered is kept")
	}
}
