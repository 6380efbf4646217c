package collect

import (
	"math/rand"
	"slices"
	"strconv"
	"strings"
	"testing"

	"tithebarn/api"
	"tithebarn/cas"
	"tithebarn/disk"
	"tithebarn/generations"
	"tithebarn/kv"
	"tithebarn/refdb"
)

type place struct {
	d *disk.Disk
	k *kv.Table
	b *refdb.Base
	s *cas.Store
}

func open(t *testing.T, d *disk.Disk) place {
	t.Helper()
	x, e := kv.Open(d)
	b, e2 := refdb.Open(x)
	s, e3 := cas.Open(d)
	if e != api.OK || e2 != api.OK || e3 != api.OK {
		t.Fatal(e, e2, e3)
	}
	return place{d, x, b, s}
}

func fresh(t *testing.T) place { return open(t, disk.New(1<<22)) }

// put puts an object, and makes it valid.
func (p place) put(t *testing.T, data string, refs ...string) string {
	t.Helper()
	o, e := p.s.Put("x", api.Node{Kind: api.File, Data: data})
	if e != api.OK {
		t.Fatal(e)
	}
	if e := p.b.Register(o, "", refs); e != api.OK {
		t.Fatal(e)
	}
	return o
}

func rising(l ...string) []string {
	slices.Sort(l)
	return l
}

func same(t *testing.T, got []string, e api.Errno, want ...string) {
	t.Helper()
	if e != api.OK || !slices.Equal(got, want) {
		t.Fatalf("%q, %d; want %q", got, e, want)
	}
}

// The document's example, P27.1, P27.2
func TestCollect(t *testing.T) {
	p := fresh(t)
	a := p.put(t, "a")
	b := p.put(t, "b", a)
	c := p.put(t, "c")
	d, _ := p.s.Put("d", api.Node{Kind: api.Dir})
	p.b.Root("r", a)
	dead, e := Dead(p.b)
	same(t, dead, e, rising(b, c)...)
	stray, e := Stray(p.b, p.s)
	same(t, stray, e, d)
	gone, e := Collect(p.b, p.s)
	same(t, gone, e, append(rising(b, c), d)...)
	same(t, p.b.Objects(), api.OK, a)
	same(t, p.s.List(), api.OK, a)
	gone, e = Collect(p.b, p.s)
	same(t, gone, e)
	dead, e = Dead(p.b)
	same(t, dead, e)
	stray, e = Stray(p.b, p.s)
	same(t, stray, e)
	// what others refer to goes behind them; what refers to itself goes
	p = fresh(t)
	l := []string{p.put(t, "0")}
	for i := range 9 {
		l = append(l, p.put(t, strconv.Itoa(i+1), l[i]))
	}
	slices.Reverse(l)
	gone, e = Collect(p.b, p.s)
	same(t, gone, e, l...)
	self := strings.Repeat("0", 32) + "-self"
	p.b.Register(self, "", []string{self})
	gone, e = Collect(p.b, p.s)
	same(t, gone, e) // it has no file: nothing was dropped
	same(t, p.b.Objects(), api.OK)
}

// P27.1, P27.2: errors
func TestErrors(t *testing.T) {
	p := fresh(t)
	if _, e := Dead(nil); e != api.ErrNil {
		t.Error(e)
	}
	for _, x := range []place{{}, {b: p.b}, {s: p.s}} {
		if l, e := Stray(x.b, x.s); l != nil || e != api.ErrNil {
			t.Error(e)
		}
		if l, e := Collect(x.b, x.s); l != nil || e != api.ErrNil {
			t.Error(e)
		}
	}
	a, b := p.put(t, "a"), p.put(t, "b")
	if l, e := Collect(p.b, nil); l != nil || e != api.ErrNil || len(p.b.Objects()) != 2 {
		t.Error("without a store", e)
	}
	p.b.Keep(1, []byte("junk"), true)
	if l, e := Dead(p.b); l != nil || e != api.ErrJournal {
		t.Error(e)
	}
	if l, e := Collect(p.b, p.s); l != nil || e != api.ErrJournal || len(p.b.Objects()) != 2 || len(p.s.List()) != 2 {
		t.Error(e)
	}
	p.b.Keep(2, []byte(strings.Repeat("\x00", 12)), true)
	p.b.Forget(1)
	// the power goes behind the first one
	p.d.Fail(4)
	if l, e := Collect(p.b, p.s); e != api.ErrDisk || !slices.Equal(l, rising(a, b)[:1]) {
		t.Error(l, e)
	}
	// objects that refer to one another, in a table made by hand
	p = fresh(t)
	a, b = p.put(t, "a"), p.put(t, "b")
	c := p.put(t, "c", a)
	p.k.Apply([]kv.Op{{Key: "e" + a + "/" + b}, {Key: "r" + b + "/" + a}, {Key: "e" + b + "/" + a}, {Key: "r" + a + "/" + b}})
	if l, e := Collect(p.b, p.s); e != api.ErrState || !slices.Equal(l, []string{c}) {
		t.Error(l, e)
	}
	same(t, p.b.Objects(), api.OK, rising(a, b)...)
}

// P27.3
func TestReadOnly(t *testing.T) {
	p := fresh(t)
	p.put(t, "a")
	l, _ := Dead(p.b)
	l[0] = "x"
	m, _ := Stray(p.b, p.s)
	if again, _ := Dead(p.b); again[0] == "x" || len(m) != 0 {
		t.Fatal("shared")
	}
}

// P27.2: the order, by the words
func TestOrder(t *testing.T) {
	r := rand.New(rand.NewSource(27))
	for range 30 {
		p := fresh(t)
		var l []string
		for i := range 12 {
			var refs []string
			for range r.Intn(4) {
				if i > 0 {
					refs = append(refs, l[r.Intn(i)])
				}
			}
			l = append(l, p.put(t, strconv.Itoa(i), refs...))
		}
		var held []string
		if r.Intn(2) == 0 {
			held = append(held, l[r.Intn(12)])
		}
		if _, e := generations.Make(p.b, generations.Gen{Objects: held}); e != api.OK {
			t.Fatal(e)
		}
		live := p.b.Closure(held)
		left := slices.DeleteFunc(p.b.Objects(), func(o string) bool { return slices.Contains(live, o) })
		var want []string
		for len(left) > 0 {
			at := slices.IndexFunc(left, func(o string) bool {
				return !slices.ContainsFunc(left, func(by string) bool { return by != o && slices.Contains(p.b.Refs(by), o) })
			})
			want = append(want, left[at])
			left = slices.Delete(left, at, at+1)
		}
		gone, e := Collect(p.b, p.s)
		same(t, gone, e, want...)
		same(t, p.b.Objects(), api.OK, live...)
		same(t, p.s.List(), api.OK, live...)
	}
}

// P27.4: wherever the power goes, nothing that is live goes.
func TestFollows(t *testing.T) {
	for fail := range 30 {
		for _, keep := range []int{0, 1, 60, 1000} {
			p := fresh(t)
			a := p.put(t, "a")
			b := p.put(t, "b", a)
			c := p.put(t, "c", b)
			d := p.put(t, "d", a)
			p.put(t, "e", d, c)
			p.s.Put("stray", api.Node{Kind: api.Dir})
			generations.Make(p.b, generations.Gen{Objects: []string{b}})
			p.d.Fail(fail)
			_, e := Collect(p.b, p.s)
			if e != api.OK && e != api.ErrDisk {
				t.Fatal(e)
			}
			p.d.Crash()
			p.d.On([]int{keep, keep, keep, keep, keep, keep, keep, keep})
			p = open(t, p.d)
			for _, o := range []string{a, b} {
				if !p.b.Valid(o) || p.s.Check(o) != api.OK {
					t.Fatal(o)
				}
			}
			for _, o := range p.b.Objects() {
				if p.s.Check(o) != api.OK {
					t.Fatal("valid, and gone")
				}
			}
			if _, e := Collect(p.b, p.s); e != api.OK {
				t.Fatal(e)
			}
			same(t, p.b.Objects(), api.OK, rising(a, b)...)
			same(t, p.s.List(), api.OK, rising(a, b)...)
		}
	}
}
