package naming

import (
	"math/big"
	"strings"
	"testing"

	"tithebarn/api"
)

func digest(seed byte) api.Digest {
	var d api.Digest
	for i := range d {
		d[i] = byte(i)*seed + seed>>1
	}
	return d
}

// slow tells the letters by way of one great number.
func slow(d api.Digest) string {
	x := new(big.Int).SetBytes(d[:20])
	var s []byte
	for range 32 {
		m := new(big.Int)
		x.DivMod(x, big.NewInt(32), m)
		s = append([]byte{"0123456789abcdfghijklmnpqrsvwxyz"[m.Int64()]}, s...)
	}
	return string(s)
}

// P9.1
func TestLetters(t *testing.T) {
	if s := Letters(api.Digest{}); s != strings.Repeat("0", 32) {
		t.Fatal(s)
	}
	if s := Letters(api.Digest{248}); s != "z"+strings.Repeat("0", 31) {
		t.Fatal(s)
	}
	for seed := range 256 {
		d := digest(byte(seed))
		if Letters(d) != slow(d) {
			t.Fatal(Letters(d), slow(d))
		}
		d[20] ^= 1
		if Letters(d) != slow(d) {
			t.Fatal("the 21st byte counts")
		}
	}
}

// P9.2
func TestBytes(t *testing.T) {
	for seed := range 256 {
		d := digest(byte(seed))
		if b, ok := Bytes(Letters(d)); !ok || b != [20]byte(d[:20]) {
			t.Fatal(seed)
		}
	}
	good := Letters(digest(77))
	for _, s := range []string{"", good[1:], good + "0", "e" + good[1:], good[:31] + "o", "t" + good[1:], "u" + good[1:], "A" + good[1:], good[:31] + "-", "\x00" + good[1:]} {
		if b, ok := Bytes(s); ok || b != [20]byte{} {
			t.Errorf("%q", s)
		}
	}
}

// P9.3
func TestRight(t *testing.T) {
	for _, s := range []string{"a", "Z", "0", "+", "-", "_", "a.", "gcc-1.2", "-.", strings.Repeat("x", 64)} {
		if !Right(s) {
			t.Errorf("%q is none", s)
		}
	}
	for _, s := range []string{"", ".", ".a", "a b", "a/b", "a@", "é", "a\n", "\x00", strings.Repeat("x", 65)} {
		if Right(s) {
			t.Errorf("%q is one", s)
		}
	}
	for c := range 256 {
		want := strings.IndexByte("abcdefghijklmnopqrstuvwxyzABCDEFGHIJKLMNOPQRSTUVWXYZ0123456789+-._", byte(c)) >= 0
		if Right("a"+string([]byte{byte(c)})) != want {
			t.Errorf("byte %d", c)
		}
	}
}

// P9.4, P9.5
func TestName(t *testing.T) {
	noughts := strings.Repeat("0", 32)
	s, e := Name(api.Digest{}, "gcc-1.2")
	if e != api.OK || s != noughts+"-gcc-1.2" {
		t.Fatal(s, e)
	}
	if a, b, e := Parse(s); a != noughts || b != "gcc-1.2" || e != api.OK {
		t.Fatal(a, b, e)
	}
	for _, name := range []string{"", ".a", "a b", strings.Repeat("x", 65)} {
		if s, e := Name(digest(3), name); s != "" || e != api.ErrArg {
			t.Errorf("%q: %d", name, e)
		}
	}
	for _, s := range []string{"", noughts, noughts + "-", noughts + "a", noughts + "-.a", noughts + "_a", noughts + "0-a", noughts[1:] + "-a", strings.Repeat("e", 32) + "-a", noughts + "-" + strings.Repeat("x", 65), noughts + "-a b"} {
		if a, b, e := Parse(s); a != "" || b != "" || e != api.ErrName {
			t.Errorf("%q: %d", s, e)
		}
	}
}

// P9.6
func TestFits(t *testing.T) {
	d := digest(9)
	s, _ := Name(d, "x")
	if !Fits(s, d) {
		t.Fatal("its own")
	}
	for i := range d {
		o := d
		o[i] ^= 16
		if Fits(s, o) != (i >= 20) {
			t.Fatalf("byte %d", i)
		}
	}
	if Fits(Letters(d), d) || Fits(Letters(d)+"-", d) || Fits("", d) || Fits(strings.Repeat("e", 32)+"-a", api.Digest{}) {
		t.Fatal("no object's name")
	}
}

// P9.7
func TestFollows(t *testing.T) {
	seen := map[string][20]byte{}
	for seed := range 256 {
		d := digest(byte(seed))
		s, _ := Name(d, "a.b")
		head, name, e := Parse(s)
		if e != api.OK || head != Letters(d) || name != "a.b" {
			t.Fatal(s)
		}
		o := d
		o[31] ^= 255
		if again, _ := Name(o, name); again != s {
			t.Fatal(again)
		}
		if b, ok := seen[head]; ok && b != [20]byte(d[:20]) {
			t.Fatal("unlike bytes, the same letters")
		}
		seen[head] = [20]byte(d[:20])
	}
	// every row of letters is that of its bytes
	for i := range 32 {
		for _, c := range letters {
			s := strings.Repeat("0", i) + string(c) + strings.Repeat("z", 31-i)
			b, ok := Bytes(s)
			var d api.Digest
			copy(d[:], b[:])
			if !ok || Letters(d) != s {
				t.Fatal(s)
			}
		}
	}
}
