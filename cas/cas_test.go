package cas

import (
	"slices"
	"strings"
	"testing"

	"tithebarn/api"
	"tithebarn/archive"
	"tithebarn/disk"
	"tithebarn/files"
	"tithebarn/naming"
	"tithebarn/sha"
)

func file(data string) api.Node { return api.Node{Kind: api.File, Data: data} }

func open(t *testing.T, d *disk.Disk) *Store {
	t.Helper()
	s, e := Open(d)
	if e != api.OK || s == nil {
		t.Fatalf("Open: %d", e)
	}
	return s
}

func put(t *testing.T, s *Store, name, data string) string {
	t.Helper()
	object, e := s.Put(name, file(data))
	if e != api.OK {
		t.Fatalf("Put: %d", e)
	}
	return object
}

func want(t *testing.T, got, wanted api.Errno) {
	t.Helper()
	if got != wanted {
		t.Fatalf("error %d, want %d", got, wanted)
	}
}

// The document's example, P11.2, P11.3
func TestPut(t *testing.T) {
	d := disk.New(1 << 20)
	s := open(t, d)
	o := put(t, s, "hello", "hi")
	b, _ := archive.Put(file("hi"))
	if name, _ := naming.Name(sha.Sum(b), "hello"); o != name {
		t.Fatal(o)
	}
	if n, e := s.Get(o); e != api.OK || !files.Same(n, file("hi")) {
		t.Fatal(n, e)
	}
	if got, e := d.Read("o." + o); e != api.OK || string(got) != "TAR1F\x00\x00\x00\x02hi" {
		t.Fatalf("%q, %d", got, e)
	}
	if !slices.Equal(s.List(), []string{o}) || !s.Has(o) || s.Check(o) != api.OK || s.Used() != 11 || d.Steps() != 3 {
		t.Fatal(s.List(), s.Used(), d.Steps())
	}
	if put(t, s, "hello", "hi") != o || d.Steps() != 3 {
		t.Fatal("put again, it is put")
	}
	// it is settled
	d.Crash()
	d.On(nil)
	s = open(t, d)
	want(t, s.Check(o), api.OK)
	// one that is not whole is put anew; a t. ahead is removed first
	d.Cut("o."+o, 3)
	d.Append("t."+o, []byte("junk"))
	want(t, s.Check(o), api.ErrHash)
	if put(t, s, "hello", "hi") != o || s.Check(o) != api.OK || len(d.Names()) != 1 {
		t.Fatal("not put anew")
	}
	other := put(t, s, "hullo", "hi")
	if other[:32] != o[:32] || len(s.List()) != 2 {
		t.Fatal("another name")
	}
}

// P11.1
func TestOpen(t *testing.T) {
	if s, e := Open(nil); s != nil || e != api.ErrNil {
		t.Fatal(e)
	}
	d := disk.New(1000)
	for _, name := range []string{"t.", "t.x", "t", "o.t.", "T.x", "log.0"} {
		d.Append(name, []byte("x"))
		d.Sync(name)
	}
	open(t, d)
	if !slices.Equal(d.Names(), []string{"T.x", "log.0", "o.t.", "t"}) {
		t.Fatal(d.Names())
	}
	d.Append("t.a", nil)
	d.Append("t.b", nil)
	d.Fail(1)
	if s, e := Open(d); s != nil || e != api.ErrDisk {
		t.Fatal(e)
	}
	if s, e := Open(d); s != nil || e != api.ErrDisk {
		t.Fatal(e)
	}
	if !slices.Contains(d.Names(), "t.b") || slices.Contains(d.Names(), "t.a") {
		t.Fatal(d.Names())
	}
}

// P11.1: nil
func TestNil(t *testing.T) {
	var s *Store
	_, e := s.Put("", api.Node{})
	want(t, e, api.ErrNil)
	_, e = s.Get("")
	want(t, e, api.ErrNil)
	_, e = s.Refs("", nil)
	want(t, e, api.ErrNil)
	want(t, s.Check(""), api.ErrNil)
	want(t, s.Drop(""), api.ErrNil)
	if s.Has("") || s.List() != nil || s.Used() != 0 {
		t.Fatal("something")
	}
}

// P11.2: errors
func TestPutErrors(t *testing.T) {
	d := disk.New(30)
	s := open(t, d)
	big := api.Node{Kind: api.Dir}
	for i := range 17 {
		big.Entries = append(big.Entries, api.Entry{Name: string(rune('a' + i)), Node: file(strings.Repeat("x", api.MaxFile))})
	}
	for _, c := range []struct {
		name string
		n    api.Node
		want api.Errno
	}{{".x", api.Node{}, api.ErrTree}, {".x", big, api.ErrLimit}, {".x", file(""), api.ErrArg}, {"", file(""), api.ErrArg}, {"x", file(strings.Repeat("x", 30)), api.ErrFull}} {
		if o, e := s.Put(c.name, c.n); e != c.want || o != "" {
			t.Fatalf("%d, want %d", e, c.want)
		}
	}
	if len(d.Names()) != 0 {
		t.Fatal("what failed leaves a file")
	}
	o := put(t, s, "x", "hi")
	d.Crash()
	for _, c := range []struct {
		name string
		n    api.Node
		want api.Errno
	}{{".x", api.Node{}, api.ErrTree}, {".x", file(""), api.ErrArg}, {"x", file("hi"), api.ErrDisk}} {
		if o, e := s.Put(c.name, c.n); e != c.want || o != "" {
			t.Fatalf("%d, want %d", e, c.want)
		}
	}
	if s.Has(o) || s.Check(o) != api.ErrDisk {
		t.Fatal("of a disk that is off")
	}
}

// P11.3, P11.4: errors
func TestErrors(t *testing.T) {
	d := disk.New(1 << 20)
	s := open(t, d)
	a, b := put(t, s, "a", "x"), put(t, s, "b", "y")
	tell := put(t, s, "tell", "see "+a+"/x")
	none := strings.Repeat("0", 32) + "-none"
	d.Append("o.junk", nil)
	d.Append("o."+none+"/", nil)
	l := []string{a, b, tell}
	slices.Sort(l)
	if !slices.Equal(s.List(), l) {
		t.Fatal(s.List())
	}
	if r, e := s.Refs(tell, []string{b, a, a}); e != api.OK || !slices.Equal(r, []string{a, a}) {
		t.Fatal(r, e)
	}
	ask := func(object string, wanted api.Errno) {
		t.Helper()
		n, e := s.Get(object)
		want(t, e, wanted)
		if !files.Same(n, api.Node{}) {
			t.Fatal("a tree")
		}
		want(t, s.Check(object), wanted)
		r, e := s.Refs(object, l)
		want(t, e, wanted)
		if r != nil {
			t.Fatal(r)
		}
	}
	ask("junk", api.ErrName)
	ask(none, api.ErrNone)
	want(t, s.Drop("junk"), api.ErrName)
	want(t, s.Drop(none), api.ErrNone)
	if s.Has("junk") || s.Has(none) {
		t.Fatal("Has")
	}
	// not whole: cut short, another tree, no archive
	for _, spoil := range []string{"", "TAR1F\x00\x00\x00\x01y", "TAR1F\x00\x00\x00\x01xx", "junk"} {
		d.Remove("o." + a)
		d.Append("o."+a, []byte(spoil))
		ask(a, api.ErrHash)
		if !s.Has(a) {
			t.Fatal("its file is there")
		}
	}
	want(t, s.Drop(a), api.OK)
	ask(a, api.ErrNone)
	d.Crash()
	ask("junk", api.ErrName)
	ask(a, api.ErrDisk)
	ask(b, api.ErrDisk)
	want(t, s.Drop("junk"), api.ErrName)
	want(t, s.Drop(none), api.ErrDisk)
	if s.Has(b) || s.Used() == 0 {
		t.Fatal("off")
	}
}

// P11.5
func TestCopies(t *testing.T) {
	s := open(t, disk.New(1<<20))
	n := api.Node{Kind: api.Dir, Entries: []api.Entry{{Name: "a", Node: file("1")}}}
	o, _ := s.Put("d", n)
	n.Entries[0].Name = "b"
	m, _ := s.Get(o)
	m.Entries[0].Name = "c"
	if m, _ = s.Get(o); m.Entries[0].Name != "a" {
		t.Fatal("kept")
	}
}

// P11.6
func TestFollows(t *testing.T) {
	for fail := range 16 {
		for keep := range 20 {
			d := disk.New(1 << 20)
			s := open(t, d)
			d.Fail(fail)
			sure := map[string]bool{}
			under := ""
			for i, data := range []string{"one", "two", "three", "four"} {
				b, _ := archive.Put(file(data))
				under, _ = naming.Name(sha.Sum(b), "x")
				if _, e := s.Put("x", file(data)); e != api.OK {
					break
				}
				sure[under] = true
				if i%2 == 1 {
					delete(sure, under)
					if s.Drop(under) != api.OK {
						break
					}
				}
				under = ""
			}
			if !d.Off() {
				d.Crash()
			}
			d.On([]int{keep, keep, keep, keep})
			s = open(t, d)
			for o := range sure {
				want(t, s.Check(o), api.OK)
			}
			for _, o := range s.List() {
				if !sure[o] && o != under || s.Check(o) != api.OK {
					t.Fatal(o)
				}
			}
			if len(d.Names()) != len(s.List()) {
				t.Fatal(d.Names())
			}
		}
	}
}
