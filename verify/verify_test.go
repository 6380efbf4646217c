package verify

import (
	"slices"
	"strings"
	"testing"

	"tithebarn/api"
	"tithebarn/cas"
	"tithebarn/disk"
	"tithebarn/kv"
	"tithebarn/realise"
	"tithebarn/refdb"
)

type place struct {
	d *disk.Disk
	k *kv.Table
	b *refdb.Base
	s *cas.Store
}

func open(t *testing.T, d *disk.Disk) place {
	t.Helper()
	x, e := kv.Open(d)
	b, e2 := refdb.Open(x)
	s, e3 := cas.Open(d)
	if e != api.OK || e2 != api.OK || e3 != api.OK {
		t.Fatal(e, e2, e3)
	}
	return place{d, x, b, s}
}

func fresh(t *testing.T) place { return open(t, disk.New(1<<22)) }

const fuel = 1000

// build builds a derivation that may be.
func (p place) build(t *testing.T, name, recipe string, inputs ...string) string {
	t.Helper()
	slices.Sort(inputs)
	o, _, e := realise.Build(p.b, p.s, api.Drv{Name: name, Inputs: inputs, Recipe: recipe}, fuel)
	if e != api.OK {
		t.Fatalf("%s: %d", name, e)
	}
	return o
}

// chain builds a; b of a; c of b, which reads it; d, of none.
func (p place) chain(t *testing.T) []string {
	t.Helper()
	a := p.build(t, "a", "file \"a\" = \"1\"")
	b := p.build(t, "b", "file \"b\" = input(0)", a)
	c := p.build(t, "c", "file \"c\" = read(input(0), \"b\")", b)
	return []string{a, b, c, p.build(t, "d", "file \"d\" = \"4\"")}
}

func rising(l ...string) []string {
	slices.Sort(l)
	return l
}

func same(t *testing.T, got []string, want ...string) {
	t.Helper()
	if !slices.Equal(got, want) {
		t.Fatalf("%q; want %q", got, want)
	}
}

// told verifies, and tells the bad objects.
func (p place) told(t *testing.T) []string {
	t.Helper()
	l, e := Verify(p.b, p.s)
	if e != api.OK {
		t.Fatal(e)
	}
	return l
}

// The document's examples
func TestExamples(t *testing.T) {
	p := fresh(t)
	o := p.build(t, "hello", "file \"a\" = \"hi\"")
	same(t, p.told(t))
	p.d.Cut("o."+o, 3)
	same(t, p.told(t), o)
	done, left, e := Repair(p.b, p.s, fuel)
	if e != api.OK {
		t.Fatal(e)
	}
	same(t, done, o)
	same(t, left)
	same(t, p.told(t))
	empty := strings.Repeat("0", 32) + "-empty"
	p.b.Register(empty, "", nil)
	done, left, e = Repair(p.b, p.s, fuel)
	if e != api.OK {
		t.Fatal(e)
	}
	same(t, done)
	same(t, left, empty)
}

// P28.1
func TestVerify(t *testing.T) {
	p := fresh(t)
	for _, x := range []place{{}, {b: p.b}, {s: p.s}} {
		if l, e := Verify(x.b, x.s); l != nil || e != api.ErrNil {
			t.Error(e)
		}
		if l, m, e := Repair(x.b, x.s, fuel); l != nil || m != nil || e != api.ErrNil {
			t.Error(e)
		}
	}
	p.d.Crash()
	same(t, p.told(t)) // no object, no Check
	p.d.On(nil)
	l := p.chain(t)
	p.s.Put("stray", api.Node{Kind: api.Dir})
	p.d.Cut("o."+p.s.List()[0], 0)
	p.d.Remove("o." + l[0])
	p.d.Cut("o."+l[1], 9)
	p.d.Append("o."+l[2], []byte("x"))
	var want []string
	for _, o := range p.b.Objects() {
		if p.s.Check(o) != api.OK {
			want = append(want, o)
		}
	}
	same(t, p.told(t), want...)
	if len(want) < 3 {
		t.Fatal(want)
	}
	p.d.Crash()
	if l, e := Verify(p.b, p.s); l != nil || e != api.ErrDisk {
		t.Error(e)
	}
	if l, m, e := Repair(p.b, p.s, fuel); l != nil || m != nil || e != api.ErrDisk {
		t.Error(e)
	}
}

// P28.2, P28.4: whatever is spoilt is told, and built again, inputs first.
func TestRepair(t *testing.T) {
	for which := range 16 {
		for way := range 4 {
			p := fresh(t)
			l := p.chain(t)
			var bad []string
			for i, o := range l {
				if which>>i&1 == 0 {
					continue
				}
				bad = append(bad, o)
				switch way {
				case 0:
					p.d.Remove("o." + o)
				case 1:
					p.d.Cut("o."+o, 3)
				case 2:
					p.d.Append("o."+o, []byte{0})
				case 3:
					b, _ := p.d.Read("o." + o)
					b[len(b)-1] ^= 1
					p.d.Cut("o."+o, 0)
					p.d.Append("o."+o, b)
				}
			}
			table := p.k.Save()
			same(t, p.told(t), rising(slices.Clone(bad)...)...)
			done, left, e := Repair(p.b, p.s, fuel)
			if e != api.OK || !slices.Equal(rising(slices.Clone(done)...), rising(slices.Clone(bad)...)) || left != nil {
				t.Fatal(done, left, e)
			}
			// each is the first one, rising, of those that could be
			for i, o := range done {
				for _, later := range done[i+1:] {
					at, by := slices.Index(l, o), slices.Index(l, later)
					if at == by+1 && at < 3 || later < o && !(by > 0 && by < 3 && slices.Contains(done[i:], l[by-1])) {
						t.Fatal("the order", done)
					}
				}
			}
			same(t, p.told(t))
			if !slices.Equal(p.k.Save(), table) {
				t.Fatal("the table")
			}
		}
	}
}

// P28.2: what is left
func TestLeft(t *testing.T) {
	p := fresh(t)
	l := p.chain(t)
	for _, o := range l {
		p.d.Cut("o."+o, 3)
	}
	// too little fuel for b and c
	done, left, e := Repair(p.b, p.s, 3)
	if e != api.OK {
		t.Fatal(e)
	}
	slices.Sort(done)
	same(t, done, rising(l[0], l[3])...)
	same(t, left, rising(l[1], l[2])...)
	same(t, p.told(t), rising(l[1], l[2])...)
	// behind it, with enough
	done, left, e = Repair(p.b, p.s, fuel)
	if e != api.OK {
		t.Fatal(e)
	}
	same(t, done, l[1], l[2])
	same(t, left)

	// no derivation; a recipe that goes wrong; another name; an input that can't be repaired, or is not there
	p = fresh(t)
	junk, other, wrong := strings.Repeat("0", 32)+"-x", strings.Repeat("1", 32)+"-x", strings.Repeat("2", 32)+"-x"
	p.b.Register(junk, "junk", nil)
	p.b.Register(other, "DRV1\x00\x00\x00\x01x\x00\x00\x00\x00\x00\x00", nil)
	p.b.Register(wrong, "DRV1\x00\x00\x00\x01x\x00\x00\x00\x00\x00\x06fail 1", nil)
	on := "DRV1\x00\x00\x00\x01x\x00\x01\x00\x00\x00\x22" + junk + "\x00\x00\x00\x00"
	needy := strings.Repeat("3", 32) + "-x"
	p.b.Register(needy, on, nil)
	self := strings.Repeat("4", 32) + "-x"
	p.b.Register(self, strings.Replace(on, junk, self, 1), nil)
	lost := strings.Repeat("5", 32) + "-x"
	p.b.Register(lost, strings.Replace(on, junk, strings.Repeat("6", 32)+"-x", 1), nil)
	steps := p.d.Steps()
	done, left, e = Repair(p.b, p.s, fuel)
	if e != api.OK {
		t.Fatal(e)
	}
	same(t, done)
	same(t, left, junk, other, wrong, needy, self, lost)
	if p.d.Steps() != steps || p.s.List() != nil {
		t.Fatal("something was put")
	}
}

// P28.2: cas.Put's error
func TestErrors(t *testing.T) {
	p := fresh(t)
	o := p.build(t, "big", "let s = \"x\"\nfor i = 1 to 12\nlet s = s .. s\nend\nfile \"s\" = s")
	junk := strings.Repeat("0", 32) + "-a"
	p.b.Register(junk, "", nil)
	p.d.Cut("o."+o, 3)
	p.d.Append("other", make([]byte, 1<<22-p.d.Used()))
	// what is left ahead of the error is told rising, though the first one waited for the other one
	q := fresh(t)
	o2 := q.build(t, "big", "let s = \"x\"\nfor i = 1 to 12\nlet s = s .. s\nend\nfile \"s\" = s")
	first, second := strings.Repeat("0", 32)+"-x", strings.Repeat("0", 31)+"1-x"
	q.b.Register(second, "", nil)
	q.b.Register(first, "DRV1\x00\x00\x00\x01x\x00\x01\x00\x00\x00\x22"+second+"\x00\x00\x00\x00", nil)
	q.d.Cut("o."+o2, 3)
	q.d.Fail(0)
	if done, left, e := Repair(q.b, q.s, fuel); e != api.ErrDisk || done != nil || !slices.Equal(left, []string{first, second}) {
		t.Fatal(done, left, e)
	}
	if done, left, e := Repair(p.b, p.s, fuel); e != api.ErrFull || done != nil || !slices.Equal(left, []string{junk}) {
		t.Fatal(done, left, e)
	}
	p.d.Remove("other")
	p.d.Fail(0)
	if done, left, e := Repair(p.b, p.s, fuel); e != api.ErrDisk || done != nil || !slices.Equal(left, []string{junk}) {
		t.Fatal(done, left, e)
	}
	p.d.On([]int{9, 9, 9, 9})
	p = open(t, p.d)
	if done, left, e := Repair(p.b, p.s, fuel); e != api.OK || !slices.Equal(done, []string{o}) || !slices.Equal(left, []string{junk}) {
		t.Fatal(done, left, e)
	}
}

// P28.3
func TestReadOnly(t *testing.T) {
	p := fresh(t)
	o := p.chain(t)[0]
	p.d.Cut("o."+o, 0)
	l := p.told(t)
	l[0] = "x"
	same(t, p.told(t), o)
}
