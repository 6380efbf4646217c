package generations

import (
	"slices"
	"strconv"
	"strings"
	"testing"

	"tithebarn/api"
	"tithebarn/disk"
	"tithebarn/kv"
	"tithebarn/naming"
	"tithebarn/refdb"
)

func obj(i int) string {
	s, _ := naming.Name(api.Digest{byte(i >> 8), byte(i)}, "x")
	return s
}

func fresh(t *testing.T) (*refdb.Base, *disk.Disk) {
	t.Helper()
	d := disk.New(1 << 23)
	return open(t, d), d
}

func open(t *testing.T, d *disk.Disk) *refdb.Base {
	t.Helper()
	x, e := kv.Open(d)
	b, e2 := refdb.Open(x)
	if e != api.OK || e2 != api.OK {
		t.Fatal(e, e2)
	}
	return b
}

func same(a, b Gen) bool {
	return slices.Equal(a.Wants, b.Wants) && slices.Equal(a.Picks, b.Picks) && slices.Equal(a.Objects, b.Objects)
}

func want(t *testing.T, got, wanted api.Errno) {
	t.Helper()
	if got != wanted {
		t.Fatalf("error %d, want %d", got, wanted)
	}
}

func many(n int, s string) []string { return slices.Repeat([]string{s}, n) }

// P26.1, P26.6
func TestPut(t *testing.T) {
	o := obj(1)
	b, e := Put(Gen{[]string{"a@=1", ""}, []string{"a 1"}, []string{o}})
	if e != api.OK || string(b) != "\x00\x00\x00\x02\x00\x00\x00\x04a@=1\x00\x00\x00\x00\x00\x00\x00\x01\x00\x00\x00\x03a 1\x00\x00\x00\x01\x00\x00\x00\x22"+o {
		t.Fatalf("%q, %d", b, e)
	}
	var objects []string
	for i := range 1000 {
		objects = append(objects, obj(i))
	}
	for i, g := range []Gen{{}, {Wants: []string{""}}, {many(1000, ""), many(1000, "pick 1"), objects}, {Wants: many(1, strings.Repeat("w", MaxBytes))}, {many(1, "\x00\xff"), nil, objects[3:7]}} {
		b, e := Put(g)
		got, e2 := Get(b)
		if e != api.OK || e2 != api.OK || !same(g, got) {
			t.Fatal(i, e, e2)
		}
		if again, _ := Put(got); !slices.Equal(b, again) {
			t.Fatal(i)
		}
		if len(g.Picks) == 0 && got.Picks != nil {
			t.Fatal("a row without members is not nil")
		}
	}
	for i, x := range []struct {
		g    Gen
		want api.Errno
	}{
		{Gen{many(1001, ""), nil, []string{"x"}}, api.ErrLimit},
		{Gen{nil, many(1001, ""), nil}, api.ErrLimit},
		{Gen{nil, nil, append(slices.Clone(objects), obj(1000))}, api.ErrLimit},
		{Gen{many(1, strings.Repeat("w", MaxBytes)), []string{"x"}, nil}, api.ErrLimit},
		{Gen{nil, many(1, strings.Repeat("w", MaxBytes)), []string{"x"}}, api.ErrLimit},
		{Gen{nil, nil, []string{"x"}}, api.ErrName},
		{Gen{nil, nil, []string{obj(2), obj(1)}}, api.ErrName},
		{Gen{nil, nil, []string{obj(1), obj(1)}}, api.ErrName},
		{Gen{nil, nil, []string{""}}, api.ErrName},
	} {
		if b, e := Put(x.g); b != nil || e != x.want {
			t.Errorf("%d: %d", i, e)
		}
	}
	none := "\x00\x00\x00\x00"
	for _, s := range []string{"", none, none + none, none + none + none + "x", none + none + "\x00\x00\x00\x01", "\xff\xff\xff\xff" + none, "\x00\x00\x00\x01\xff\xff\xff\xffx", none + none + "\x00\x00\x00\x01\x00\x00\x00\x01x", "\x00\x00\x03\xe9" + strings.Repeat(none, 1001) + none + none, "\x00\x00\x00\x01\x00\x00\xea\x61" + strings.Repeat("w", MaxBytes+1) + none + none} {
		if g, e := Get([]byte(s)); e != api.ErrJournal || !same(g, Gen{}) {
			t.Errorf("%.20q: %d", s, e)
		}
	}
	for i := range b {
		if _, e := Get(b[:i]); e != api.ErrJournal {
			t.Error(i, "bytes are one's")
		}
	}
}

// P26.2, P26.3: nil
func TestNil(t *testing.T) {
	if MaxRows != 1000 || MaxBytes != 60000 {
		t.Fatal("limits")
	}
	n, e := Next(nil)
	want(t, e, api.ErrNil)
	n2, e := Make(nil, Gen{Objects: []string{"x"}})
	want(t, e, api.ErrNil)
	_, e = Load(nil, 1)
	want(t, e, api.ErrNil)
	n3, _, e := Current(nil)
	want(t, e, api.ErrNil)
	n4, e := Rollback(nil)
	want(t, e, api.ErrNil)
	if n+n2+n3+n4 != 0 {
		t.Fatal("with an error, a number")
	}
	_, e = Live(nil)
	want(t, e, api.ErrNil)
}

func make1(t *testing.T, b *refdb.Base, g Gen, wanted int64) {
	t.Helper()
	if n, e := Make(b, g); n != wanted || e != api.OK {
		t.Fatal(n, e)
	}
}

// The document's example, P26.2, P26.3
func TestMake(t *testing.T) {
	b, _ := fresh(t)
	if n, g, e := Current(b); n != 0 || !same(g, Gen{}) || e != api.ErrGen {
		t.Fatal(e)
	}
	if n, e := Rollback(b); n != 0 || e != api.ErrGen {
		t.Fatal(e)
	}
	g := Gen{Wants: []string{"a"}, Picks: []string{"a 1"}}
	make1(t, b, g, 1)
	make1(t, b, Gen{}, 2)
	if n, x, e := Current(b); n != 2 || !same(x, Gen{}) || e != api.OK {
		t.Fatal(n, e)
	}
	if n, e := Rollback(b); n != 1 || e != api.OK {
		t.Fatal(n, e)
	}
	if n, x, e := Current(b); n != 1 || !same(x, g) || e != api.OK {
		t.Fatal(n, e)
	}
	if n, e := Rollback(b); n != 0 || e != api.ErrGen {
		t.Fatal(n, e)
	}
	make1(t, b, g, 3)
	if n, e := Rollback(b); n != 2 || e != api.OK {
		t.Fatal(n, e)
	}
	b.Switch(3)
	b.Forget(2)
	if n, e := Rollback(b); n != 1 || e != api.OK {
		t.Fatal(n, e)
	}
	if x, e := Load(b, 3); !same(x, g) || e != api.OK {
		t.Fatal(e)
	}
	for _, n := range []int64{0, -1, 2, 4} {
		if x, e := Load(b, n); !same(x, Gen{}) || e != api.ErrGen {
			t.Fatal(e)
		}
	}
	b.Switch(3)
	b.Forget(1)
	b.Keep(9, []byte("junk"), true)
	if x, e := Load(b, 9); !same(x, Gen{}) || e != api.ErrJournal {
		t.Fatal(e)
	}
	if n, x, e := Current(b); n != 0 || !same(x, Gen{}) || e != api.ErrJournal {
		t.Fatal(n, e)
	}
	if n, e := Next(b); n != 10 || e != api.OK {
		t.Fatal(n, e)
	}
}

// P26.2: errors
func TestErrors(t *testing.T) {
	b, d := fresh(t)
	b.Register(obj(1), "", nil)
	b.Keep(refdb.MaxGen, nil, false)
	for i, x := range []struct {
		g    Gen
		want api.Errno
	}{
		{Gen{many(1001, ""), nil, []string{"x"}}, api.ErrLimit},
		{Gen{nil, nil, []string{"x"}}, api.ErrName},
		{Gen{nil, nil, []string{obj(1), obj(2)}}, api.ErrNone},
		{Gen{nil, nil, []string{obj(1)}}, api.ErrOverflow},
	} {
		if n, e := Make(b, x.g); n != 0 || e != x.want {
			t.Errorf("%d: %d", i, e)
		}
	}
	if n, e := Next(b); n != 0 || e != api.ErrOverflow {
		t.Error(n, e)
	}
	b.Forget(refdb.MaxGen)
	b.Keep(refdb.MaxGen-1, nil, false)
	if n, e := Next(b); n != refdb.MaxGen || e != api.OK {
		t.Error(n, e)
	}
	b.Forget(refdb.MaxGen - 1)
	// bytes that are more than the table's values may have: of many short texts
	if n, e := Make(b, Gen{many(1000, strings.Repeat("w", 29)), many(1000, strings.Repeat("w", 31)), nil}); n != 0 || e != api.ErrLimit {
		t.Error(n, e)
	}
	if b.Generations() != nil {
		t.Error("a failed one is kept")
	}
	make1(t, b, Gen{}, 1)
	make1(t, b, Gen{}, 2)
	d.Fail(0)
	if n, e := Rollback(b); n != 0 || e != api.ErrDisk {
		t.Error(n, e)
	}
	if n, e := Make(b, Gen{}); n != 0 || e != api.ErrDisk {
		t.Error(n, e)
	}
}

// P26.4, P26.6
func TestLive(t *testing.T) {
	b, _ := fresh(t)
	for i := range 8 {
		var refs []string
		if i > 1 {
			refs = []string{obj(i - 2)}
		}
		b.Register(obj(i), "", refs)
	}
	live := func(wanted ...int) {
		t.Helper()
		var l []string
		for _, i := range wanted {
			l = append(l, obj(i))
		}
		got, e := Live(b)
		if e != api.OK || !slices.Equal(got, l) {
			t.Fatalf("%v, %d", got, e)
		}
	}
	live()
	make1(t, b, Gen{Objects: []string{obj(4)}}, 1)
	live(0, 2, 4)
	b.Root("r", obj(3))
	live(0, 1, 2, 3, 4)
	make1(t, b, Gen{Objects: []string{obj(0)}}, 2)
	b.Forget(1)
	live(0, 1, 3)
	b.Unroot("r")
	live(0)
	b.Keep(5, []byte("junk"), false)
	if l, e := Live(b); l != nil || e != api.ErrJournal {
		t.Fatal(l, e)
	}
}

// P26.5
func TestCopies(t *testing.T) {
	b, _ := fresh(t)
	g := Gen{[]string{"a"}, []string{"a 1"}, nil}
	make1(t, b, g, 1)
	g.Wants[0] = "x"
	x, _ := Load(b, 1)
	x.Picks[0] = "y"
	if x, _ = Load(b, 1); x.Wants[0] != "a" || x.Picks[0] != "a 1" {
		t.Fatal("kept")
	}
}

// P26.6: wherever the power goes, a generation is made as a whole, or not at all.
func TestFollows(t *testing.T) {
	for fail := range 8 {
		for keep := range 90 {
			b, d := fresh(t)
			d.Fail(fail)
			sure := int64(0)
			for n := int64(1); n <= 3; n++ {
				if _, e := Make(b, Gen{Wants: []string{strconv.Itoa(int(n))}}); e != api.OK {
					break
				}
				sure = n
			}
			d.Crash()
			d.On([]int{keep})
			b = open(t, d)
			n, ok := b.Current()
			if n != sure && n != sure+1 || ok != (n > 0) || len(b.Generations()) != int(n) {
				t.Fatal(n, sure)
			}
			for i := int64(1); i <= n; i++ {
				if g, e := Load(b, i); e != api.OK || g.Wants[0] != strconv.Itoa(int(i)) {
					t.Fatal(i, e)
				}
			}
		}
	}
}
