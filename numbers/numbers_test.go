package numbers

import (
	"math"
	"math/big"
	"math/rand"
	"testing"

	"tithebarn/api"
)

var (
	nan    = math.NaN()
	inf    = math.Inf(1)
	nought = math.Copysign(0, -1)
)

// rising are numbers in the order.
var rising = []float64{-inf, -math.MaxFloat64, -0x1p60, -0x1p53, -0x1p53 + 1, -3, -1.5, -1, -0.5, -0x1p-1074, nought, 0, 0x1p-1074, 0x1.8p-1073, 0x1p-1022, 1.0 / 3, 0.5, 1, 1.5, 2, 12, 0x1p51 + 0.5, 0x1p53 - 1, 0x1p53, 0x1p53 + 2, 3 * 0x1p60, math.MaxFloat64, inf, nan}

var texts = map[string]float64{"12": 12, "-1p-1": -0.5, "3p60": 3 * 0x1p60, "6004799503160661p-54": 1.0 / 3, "nan": nan, "inf": inf, "-inf": -inf, "0": 0, "-0": nought, "1p-1074": 0x1p-1074, "-7": -7, "9007199254740991": 0x1p53 - 1, "1p53": 0x1p53, "-1p53": -0x1p53, "4503599627370497p1": 0x1p53 + 2, "3p-1": 1.5, "9007199254740991p971": math.MaxFloat64}

// P21.1
func TestPrint(t *testing.T) {
	for s, x := range texts {
		if Print(x) != s {
			t.Errorf("%g: %s, want %s", x, Print(x), s)
		}
	}
	if Print(math.Float64frombits(0xFFF8000000000001)) != "nan" {
		t.Error("another nan")
	}
}

// P21.2
func TestParse(t *testing.T) {
	for s, want := range texts {
		if x, e := Parse(s); e != api.OK || !Same(x, want) {
			t.Errorf("%s: %g, %d", s, x, e)
		}
	}
	for _, s := range []string{"", "01", "2p3", "1p4", "+1", "1.5", "-", "--1", "-nan", "NaN", "Inf", "infinity", "+inf", "1p", "p1", "1p+1", "1p-01", "1p--1", "00", "-00", "0p1", "1p0", "3p1", "1p52", "9007199254740992", "9007199254740993", "9007199254740993p1", "1p1024", "1p-1075", "3p-1075", "1p99999999999999999999", "1e5", "1_0", "0x1p-2", " 1", "1 ", "1\x00", "1p-1p", "99999999999999999999999", "nan0", "i", "１"} {
		if x, e := Parse(s); e != api.ErrNumber || x != 0 || 1/x < 0 {
			t.Errorf("%s: %g, %d", s, x, e)
		}
	}
}

// P21.3, P21.4
func TestCompare(t *testing.T) {
	for i, a := range rising {
		for j, b := range rising {
			want := 0
			if i < j {
				want = -1
			} else if i > j {
				want = 1
			}
			if Compare(a, b) != want || Same(a, b) != (i == j) {
				t.Errorf("%g %g: %d", a, b, Compare(a, b))
			}
		}
	}
	if !Same(nan, math.Float64frombits(0xFFF8000000000001)) {
		t.Error("nan")
	}
}

// P21.5
func TestLeast(t *testing.T) {
	if !Same(Least(), nan) || !Same(Greatest(), nan) || Least(3, 1, 2) != 1 || Greatest(3, 1, 4, 2) != 4 {
		t.Error("rows")
	}
	for i, a := range rising {
		for j, b := range rising {
			if !Same(Least(a, b), rising[min(i, j)]) || !Same(Greatest(a, b), rising[max(i, j)]) {
				t.Errorf("%g %g", a, b)
			}
		}
	}
	l := []float64{2, 1}
	Least(l...)
	if l[0] != 2 {
		t.Error("changed")
	}
}

// P21.6
func TestWhole(t *testing.T) {
	for x, want := range map[float64]int{0: 0, nought: 0, 7: 7, -7: -7, 0x1p53 - 1: 1<<53 - 1, -0x1p53 + 1: 1 - 1<<53} {
		if n, ok := Whole(x); n != want || !ok {
			t.Errorf("%g: %d", x, n)
		}
	}
	for _, x := range []float64{0.5, -0.5, 0x1p-1074, 0x1p53, -0x1p53, 0x1p60, inf, -inf, nan, 0x1p51 + 0.5, math.MaxFloat64} {
		if n, ok := Whole(x); n != 0 || ok {
			t.Errorf("%g: %d", x, n)
		}
	}
}

// P21.7, P21.9
func TestDown(t *testing.T) {
	for _, x := range [][2]float64{{-1.5, -2}, {0x1p60, 0x1p60}, {nought, nought}, {0, 0}, {0.5, 0}, {0x1p-1074, 0}, {-0x1p-1074, -1}, {1, 1}, {-1, -1}, {inf, inf}, {-inf, -inf}, {nan, nan}, {2.999, 2}} {
		if !Same(Down(x[0]), x[1]) {
			t.Errorf("%g: %g", x[0], Down(x[0]))
		}
	}
	for _, x := range rising {
		d := Down(x)
		if x != x {
			continue
		}
		if d > x || math.Trunc(d) != d || math.Abs(x) < 0x1p53 && x >= d+1 {
			t.Errorf("%g: %g", x, d)
		}
	}
}

// P21.8
func TestDo(t *testing.T) {
	for _, c := range []struct {
		op         byte
		a, b, want float64
	}{{'/', 1, nought, -inf}, {'/', 1, 0, inf}, {'/', -1, 0, -inf}, {'/', 0, 0, nan}, {'/', 0, nought, nan}, {'+', 1, 2, 3}, {'-', 1, 2, -1}, {'*', 3, -0.5, -1.5}, {'/', 1, 3, 1.0 / 3}, {'-', inf, inf, nan}, {'+', nought, nought, nought}, {'+', nought, 0, 0}, {'*', nought, 5, nought}, {'+', 0x1p53, 1, 0x1p53}, {'+', 0x1p53 + 2, 1, 0x1p53 + 4}, {'*', math.MaxFloat64, 2, inf}, {'*', 0, inf, nan}, {'*', 0x1p-1074, 0.5, 0}, {'+', nan, 1, nan}} {
		if x, ok := Do(c.op, c.a, c.b); !ok || !Same(x, c.want) {
			t.Errorf("%c %g %g: %g", c.op, c.a, c.b, x)
		}
	}
	for op := range 256 {
		x, ok := Do(byte(op), 6, 3)
		if is := op == '+' || op == '-' || op == '*' || op == '/'; ok != is || !is && x != 0 {
			t.Error(op)
		}
	}
}

// P21.9
func TestFollows(t *testing.T) {
	r := rand.New(rand.NewSource(21))
	l := append([]float64{}, rising...)
	for range 20000 {
		l = append(l, math.Float64frombits(r.Uint64()), float64(r.Intn(100000)-50000)/64)
	}
	for _, x := range l {
		s := Print(x)
		y, e := Parse(s)
		if e != api.OK || !Same(x, y) {
			t.Fatalf("%g: %s, %d", x, s, e)
		}
		if x != x || math.IsInf(x, 0) || x == 0 {
			continue
		}
		// by the text's words
		m, e2, ok := new(big.Int), 0, false
		for i := range s {
			if s[i] == 'p' {
				m.SetString(s[:i], 10)
				for _, c := range s[i+1:] {
					if c != '-' {
						e2 = 10*e2 + int(c-'0')
					}
				}
				if s[i+1] == '-' {
					e2 = -e2
				}
				ok = true
			}
		}
		if ok {
			f, _ := new(big.Float).SetMantExp(new(big.Float).SetInt(m), e2).Float64()
			if f != x || m.Bit(0) == 0 || math.Abs(x) < 0x1p53 && math.Trunc(x) == x {
				t.Fatalf("%g: %s", x, s)
			}
		}
	}
}
