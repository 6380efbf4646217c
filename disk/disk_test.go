package disk

import (
	"math"
	"math/rand"
	"slices"
	"strings"
	"testing"

	"tithebarn/api"
)

func read(t *testing.T, d *Disk, name, want string) {
	t.Helper()
	if b, e := d.Read(name); e != api.OK || string(b) != want {
		t.Fatalf("%s: %q, %d; want %q", name, b, e, want)
	}
}

func want(t *testing.T, got, wanted api.Errno) {
	t.Helper()
	if got != wanted {
		t.Fatalf("error %d, want %d", got, wanted)
	}
}

// P4.1
func TestNew(t *testing.T) {
	d := New(3)
	if d.Off() || len(d.Names()) != 0 || d.Used() != 0 || d.Steps() != 0 {
		t.Fatal("a new disk")
	}
	want(t, d.Append("a", []byte("1234")), api.ErrFull)
	want(t, d.Append("a", []byte("123")), api.OK)
	for _, q := range []int{-1, math.MinInt, 0} {
		d = New(q)
		want(t, d.Append("a", []byte("1")), api.ErrFull)
		want(t, d.Append("a", nil), api.OK)
	}
}

// P4.2: the order of the errors
func TestErrors(t *testing.T) {
	var none *Disk
	long := strings.Repeat("x", 129)
	want(t, none.Append("", nil), api.ErrNil)
	want(t, none.Sync(""), api.ErrNil)
	want(t, none.Cut("", -1), api.ErrNil)
	want(t, none.Rename("", ""), api.ErrNil)
	want(t, none.Remove(""), api.ErrNil)
	if _, e := none.Read(""); e != api.ErrNil {
		t.Fatal(e)
	}
	d := New(100)
	d.Append("a", []byte("12"))
	for _, name := range []string{"", long} {
		want(t, d.Append(name, nil), api.ErrArg)
		want(t, d.Sync(name), api.ErrArg)
		want(t, d.Cut(name, -1), api.ErrArg)
		want(t, d.Rename(name, "x"), api.ErrArg)
		want(t, d.Rename("none", name), api.ErrArg)
		want(t, d.Remove(name), api.ErrArg)
		if b, e := d.Read(name); e != api.ErrArg || len(b) != 0 {
			t.Fatal(e)
		}
	}
	want(t, d.Sync("b"), api.ErrNone)
	want(t, d.Cut("b", -1), api.ErrNone)
	want(t, d.Rename("b", "a"), api.ErrNone)
	want(t, d.Remove("b"), api.ErrNone)
	want(t, d.Cut("a", -1), api.ErrArg)
	want(t, d.Cut("a", 3), api.ErrArg)
	if d.Steps() != 1 {
		t.Fatal("a refused call is no step")
	}
	want(t, d.Append(long[1:], []byte("x")), api.OK)
	d.Crash()
	want(t, d.Append("", nil), api.ErrDisk)
	want(t, d.Sync(""), api.ErrDisk)
	want(t, d.Cut("", -1), api.ErrDisk)
	want(t, d.Rename("", ""), api.ErrDisk)
	want(t, d.Remove(""), api.ErrDisk)
	if _, e := d.Read("a"); e != api.ErrDisk {
		t.Fatal(e)
	}
}

// P4.2: what the calls do
func TestCalls(t *testing.T) {
	d := New(2 * MaxDisk)
	want(t, d.Append("a", []byte("12")), api.OK)
	want(t, d.Append("a", []byte("345")), api.OK)
	read(t, d, "a", "12345")
	want(t, d.Cut("a", 5), api.OK)
	read(t, d, "a", "12345")
	want(t, d.Cut("a", 4), api.OK)
	read(t, d, "a", "1234")
	want(t, d.Append("b", []byte("xy")), api.OK)
	want(t, d.Rename("a", "b"), api.OK)
	read(t, d, "b", "1234")
	if d.Used() != 4 || !slices.Equal(d.Names(), []string{"b"}) {
		t.Fatal(d.Used(), d.Names())
	}
	want(t, d.Rename("b", "b"), api.OK)
	read(t, d, "b", "1234")
	want(t, d.Remove("b"), api.OK)
	if d.Used() != 0 || len(d.Names()) != 0 || d.Steps() != 8 {
		t.Fatal("removed", d.Steps())
	}
	if MaxDisk != 8388608 {
		t.Fatal("MaxDisk")
	}
	want(t, d.Append("big", make([]byte, MaxDisk)), api.OK)
	want(t, d.Append("big", []byte("1")), api.ErrLimit)
	want(t, d.Append("big", make([]byte, 2*MaxDisk)), api.ErrLimit)
	want(t, d.Append("rest", make([]byte, MaxDisk)), api.OK)
	want(t, d.Append("more", []byte("1")), api.ErrFull)
	if !slices.Equal(d.Names(), []string{"big", "rest"}) {
		t.Fatal("a refused Append leaves a file")
	}
}

// P4.3
func TestTells(t *testing.T) {
	var none *Disk
	if len(none.Names()) != 0 || none.Used() != 0 || none.Steps() != 0 {
		t.Fatal("nil")
	}
	d := New(100)
	for _, name := range []string{"b", "a", "ab", "B", "\xff"} {
		d.Append(name, []byte("x"))
	}
	d.Fail(0)
	want(t, d.Sync("a"), api.ErrDisk)
	if !slices.Equal(d.Names(), []string{"B", "a", "ab", "b", "\xff"}) || d.Used() != 5 || d.Steps() != 6 {
		t.Fatal(d.Names(), d.Used(), d.Steps())
	}
}

// P4.4: arming
func TestFail(t *testing.T) {
	var none *Disk
	none.Fail(1)
	none.Crash()
	none.On(nil)
	if !none.Off() || none.Copy() != nil {
		t.Fatal("nil")
	}
	d := New(100)
	d.Fail(2)
	want(t, d.Append("a", []byte("1")), api.OK)
	want(t, d.Sync("none"), api.ErrNone) // no step
	want(t, d.Sync("a"), api.OK)
	want(t, d.Remove("a"), api.ErrDisk)
	if !d.Off() {
		t.Fatal("it is on")
	}
	d.On(nil)
	read(t, d, "a", "1") // the step at which the power went was not done
	want(t, d.Remove("a"), api.OK)
	d.Fail(0)
	d.Fail(-1)
	want(t, d.Append("a", []byte("12")), api.OK)
	d.Fail(0)
	d.Fail(1)
	want(t, d.Sync("a"), api.OK)
	want(t, d.Cut("a", 0), api.ErrDisk)
	d.Fail(0)
	d.On([]int{math.MaxInt})
	want(t, d.Append("a", []byte("3")), api.OK)
	read(t, d, "a", "123")
	d.Fail(0)
	d.Crash()
	d.On(nil)
	want(t, d.Append("b", nil), api.OK)
	for _, do := range []func() api.Errno{func() api.Errno { return d.Rename("a", "c") }, func() api.Errno { return d.Cut("a", 1) }, func() api.Errno { return d.Remove("a") }} {
		d.Fail(0)
		want(t, do(), api.ErrDisk)
		d.On(nil)
		read(t, d, "a", "12")
	}
}

// P4.4: what stays
func TestOn(t *testing.T) {
	d := New(100)
	d.Append("a", []byte("12"))
	d.Sync("a")
	d.Append("a", []byte("34"))
	d.Crash()
	d.On([]int{1})
	read(t, d, "a", "123")

	d = New(100)
	d.Append("a", []byte("1"))
	d.Crash()
	d.On(nil)
	if len(d.Names()) != 0 || d.Used() != 0 || d.Off() {
		t.Fatal("what never was settled stays")
	}

	d.Append("a", []byte("12"))
	d.Fail(0)
	want(t, d.Append("a", []byte("3")), api.ErrDisk)
	d.On([]int{6})
	read(t, d, "a", "12")

	d = New(100)
	d.Append("a", []byte("1"))
	d.Append("b", []byte("2"))
	d.Rename("a", "b")
	d.Crash()
	d.On(nil)
	if !slices.Equal(d.Names(), []string{"b"}) {
		t.Fatal(d.Names())
	}
	read(t, d, "b", "1")

	// by names rising; below 0; beyond keep; settled without a byte
	d = New(100)
	for _, name := range []string{"c", "a", "b", "e", "d"} {
		d.Append(name, []byte("123"))
	}
	d.Append("f", nil)
	d.Sync("f")
	d.Append("g", nil)
	d.Cut("e", 0)
	d.Append("e", []byte("9"))
	d.On([]int{3, 3, 3, 3, 3}) // it is on: nothing comes of it
	d.Crash()
	d.On([]int{-1, 5, math.MinInt, 0})
	if !slices.Equal(d.Names(), []string{"a", "b", "e", "f"}) || d.Used() != 4 {
		t.Fatal(d.Names(), d.Used())
	}
	read(t, d, "a", "123")
	read(t, d, "b", "1")
	read(t, d, "e", "")
	// what stayed is settled
	d.Crash()
	d.On(nil)
	read(t, d, "a", "123")
	d.Cut("b", 0)
	d.Crash()
	d.On(nil)
	read(t, d, "b", "")
}

// P4.4: copies; P4.5
func TestCopies(t *testing.T) {
	d := New(100)
	b := []byte("1234")
	d.Append("a", b[:2])
	b[0] = 9
	if string(b[2:]) != "34" {
		t.Fatal("behind the list")
	}
	r, _ := d.Read("a")
	r[1] = 9
	read(t, d, "a", "12")
	d.Fail(1)
	c := d.Copy()
	want(t, c.Append("a", []byte("3")), api.OK)
	want(t, c.Append("b", []byte("3")), api.ErrDisk)
	read(t, d, "a", "12")
	want(t, d.Append("a", []byte("4")), api.OK)
	want(t, d.Sync("a"), api.ErrDisk)
	if c.On(nil); len(c.Names()) != 0 || !d.Off() || c.Off() {
		t.Fatal("one is seen in the other")
	}
	o := d.Copy()
	if !o.Off() || o.Used() != 3 || o.Steps() != d.Steps() {
		t.Fatal("a copy of one that is off")
	}
	if want(t, New(5).Copy().Append("a", make([]byte, 6)), api.ErrFull); (&Disk{}).Append("a", nil) != api.OK {
		t.Fatal("one that nobody made")
	}
}

// model is a disk by the document's words.
type model struct {
	bytes map[string]string
	sure  map[string]int
}

// P4.6: whatever fails, settled bytes stay, and behind them stands a beginning.
func TestFollows(t *testing.T) {
	r := rand.New(rand.NewSource(4))
	for range 400 {
		d, m := New(60), model{map[string]string{}, map[string]int{}}
		d.Fail(r.Intn(25))
		for !d.Off() {
			name := string(rune('a' + r.Intn(4)))
			switch _, there := m.bytes[name]; r.Intn(6) {
			case 0, 1, 2:
				b := strings.Repeat(string(rune('0'+r.Intn(10))), r.Intn(5))
				if e := d.Append(name, []byte(b)); e != api.ErrFull {
					m.bytes[name] += b
				}
			case 3:
				if d.Sync(name) == api.OK {
					m.sure[name] = len(m.bytes[name])
				}
			case 4:
				to := string(rune('a' + r.Intn(4)))
				if d.Rename(name, to) == api.OK {
					s := m.bytes[name]
					delete(m.bytes, name)
					delete(m.sure, name)
					m.bytes[to], m.sure[to] = s, len(s)
				}
			case 5:
				if n := len(m.bytes[name]) / 2; there && d.Cut(name, n) == api.OK {
					m.bytes[name], m.sure[name] = m.bytes[name][:n], n
				}
			}
			if !d.Off() {
				for name, s := range m.bytes {
					read(t, d, name, s)
				}
			}
		}
		d.On([]int{r.Intn(9), r.Intn(9), r.Intn(9), r.Intn(9)})
		for name, n := range m.sure {
			if b, e := d.Read(name); e != api.OK || len(b) < n || !strings.HasPrefix(m.bytes[name], string(b)) {
				t.Fatalf("%s: %q of %q, of which %d were sure", name, b, m.bytes[name], n)
			}
		}
		for _, name := range d.Names() {
			if b, _ := d.Read(name); !strings.HasPrefix(m.bytes[name], string(b)) {
				t.Fatalf("%s: %q of %q", name, b, m.bytes[name])
			}
		}
	}
}
