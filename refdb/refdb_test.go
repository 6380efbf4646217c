package refdb

import (
	"math"
	"slices"
	"strconv"
	"strings"
	"testing"

	"tithebarn/api"
	"tithebarn/disk"
	"tithebarn/kv"
	"tithebarn/naming"
)

func obj(i int) string {
	s, _ := naming.Name(api.Digest{byte(i), byte(i >> 8)}, "x"+strconv.Itoa(i))
	return s
}

var a, b, c, z = obj(1), obj(2), obj(3), obj(9999)

func table(t *testing.T, d *disk.Disk) *kv.Table {
	t.Helper()
	x, e := kv.Open(d)
	if e != api.OK {
		t.Fatal(e)
	}
	return x
}

func fresh(t *testing.T) (*Base, *kv.Table) {
	t.Helper()
	x := table(t, disk.New(1<<24))
	base, e := Open(x)
	if e != api.OK || base == nil {
		t.Fatal(e)
	}
	return base, x
}

func want(t *testing.T, got, wanted api.Errno) {
	t.Helper()
	if got != wanted {
		t.Fatalf("error %d, want %d", got, wanted)
	}
}

func same(t *testing.T, got []string, wanted ...string) {
	t.Helper()
	if !slices.Equal(got, wanted) {
		t.Fatalf("%q, want %q", got, wanted)
	}
}

// all tells all of a base.
func all(base *Base) string {
	s := ""
	for _, o := range base.Objects() {
		d, _ := base.Deriver(o)
		s += o + "=" + d + ":" + strings.Join(base.Refs(o), ",") + ";"
	}
	for _, r := range base.Roots() {
		s += r[0] + ">" + r[1] + ";"
	}
	for _, n := range base.Generations() {
		v, _ := base.Generation(n)
		s += strconv.Itoa(int(n)) + "=" + string(v) + ";"
	}
	n, ok := base.Current()
	return s + strconv.Itoa(int(n)) + strconv.FormatBool(ok)
}

// The document's examples
func TestExamples(t *testing.T) {
	base, _ := fresh(t)
	want(t, base.Register(a, "", nil), api.OK)
	want(t, base.Register(b, "", []string{a}), api.OK)
	want(t, base.Unregister([]string{a}), api.ErrState)
	same(t, base.Closure([]string{b}), a, b)
	want(t, base.Unregister([]string{b, a}), api.OK)
	want(t, base.Keep(1, []byte("x"), true), api.OK)
	want(t, base.Forget(1), api.ErrCurrent)
	want(t, base.Keep(2, []byte("y"), true), api.OK)
	want(t, base.Forget(1), api.OK)
	if all(base) != "2=y;2true" {
		t.Fatal(all(base))
	}
}

// P12.1: a base that is not right
func TestOpen(t *testing.T) {
	if base, e := Open(nil); base != nil || e != api.ErrNil {
		t.Fatal(e)
	}
	put := func(key, value string) kv.Op { return kv.Op{Key: key, Value: []byte(value)} }
	eight := func(n int64) string { return string(number(n)) }
	good := [][]kv.Op{
		{},
		{put("o"+a, "deriver"), put("o"+b, "")},
		{put("o"+a, ""), put("e"+a+"/"+a, ""), put("r"+a+"/"+a, "")},
		{put("o"+a, ""), put("o"+b, ""), put("e"+a+"/"+b, ""), put("r"+b+"/"+a, ""), put("xroot", b)},
		{put("g"+eight(1), ""), put("g"+eight(MaxGen), "x"), put("c", eight(MaxGen))},
	}
	for i, l := range good {
		_, x := fresh(t)
		x.Apply(l)
		if _, e := Open(x); e != api.OK {
			t.Errorf("good %d: %d", i, e)
		}
	}
	bad := [][]kv.Op{
		{put("o", "")},
		{put("oa", "")},
		{put("y", "")},
		{put("\xff", "")},
		{put("O"+a, "")},
		{put("o"+a, ""), put("e"+a+"/"+a, "")},
		{put("o"+a, ""), put("r"+a+"/"+a, "")},
		{put("o"+a, ""), put("e"+a+"/"+b, ""), put("r"+b+"/"+a, "")},
		{put("o"+b, ""), put("e"+a+"/"+b, ""), put("r"+b+"/"+a, "")},
		{put("o"+a, ""), put("o"+b, ""), put("e"+a+"/"+b, ""), put("r"+a+"/"+b, "")},
		{put("o"+a, ""), put("e"+a+"/"+a, "v"), put("r"+a+"/"+a, "")},
		{put("o"+a, ""), put("e"+a+"/"+a, ""), put("r"+a+"/"+a, "v")},
		{put("o"+a, ""), put("e"+a, ""), put("r"+a, "")},
		{put("o"+a, ""), put("x.a", a)},
		{put("o"+a, ""), put("x", a)},
		{put("o"+a, ""), put("xa", b)},
		{put("o"+a, ""), put("xa", "")},
		{put("g"+eight(0), "")},
		{put("g"+eight(-1), "")},
		{put("g"+eight(MaxGen+1), "")},
		{put("g", "")},
		{put("g1", "")},
		{put("g"+eight(1)+"x", "")},
		{put("c", eight(1))},
		{put("g"+eight(1), ""), put("c", "")},
		{put("g"+eight(1), ""), put("c", eight(1)+"x")},
		{put("g"+eight(1), ""), put("cc", eight(1))},
	}
	for i, l := range bad {
		_, x := fresh(t)
		x.Apply(l)
		if base, e := Open(x); e != api.ErrJournal || base != nil {
			t.Errorf("bad %d: %d", i, e)
		}
	}
}

// P12.1: nil
func TestNil(t *testing.T) {
	var n *Base
	for _, e := range []api.Errno{n.Register("", "", nil), n.Unregister(nil), n.Root("", ""), n.Unroot(""), n.Keep(0, nil, true), n.Forget(0), n.Switch(0)} {
		want(t, e, api.ErrNil)
	}
	if _, ok := n.Deriver(a); ok || n.Valid(a) || n.Objects() != nil || n.Refs(a) != nil || n.Referrers(a) != nil || n.Closure([]string{a}) != nil || n.Roots() != nil || n.Generations() != nil {
		t.Fatal("something")
	}
	if _, ok := n.Generation(1); ok {
		t.Fatal("a generation")
	}
	if _, ok := n.Current(); ok {
		t.Fatal("a current one")
	}
}

// P12.2: Register
func TestRegister(t *testing.T) {
	base, x := fresh(t)
	many := make([]string, 401)
	for i := range many {
		many[i] = a
	}
	long := strings.Repeat("d", MaxDeriver)
	want(t, base.Register("a", long+"d", many), api.ErrName)
	want(t, base.Register(a, long+"d", append(many, "b")), api.ErrName)
	want(t, base.Register(a, long+"d", []string{z}), api.ErrLimit)
	want(t, base.Register(a, "", append(many, z)), api.ErrLimit)
	want(t, base.Register(a, "", []string{a, z}), api.ErrNone)
	if x.Len() != 0 {
		t.Fatal("an error changes it")
	}
	want(t, base.Register(a, long, many[:400]), api.OK)
	if _, e := Open(x); e != api.OK || MaxDeriver != 65536 || MaxGen != 1<<40 {
		t.Fatal("the longest deriver", e)
	}
	if x.Len() != 3 {
		t.Fatal(x.Len())
	}
	same(t, base.Refs(a), a)
	same(t, base.Referrers(a), a)
	want(t, base.Register(c, "of c", nil), api.OK)
	want(t, base.Register(b, "of b", []string{c, a, c, b}), api.OK)
	same(t, base.Objects(), a, b, c)
	same(t, base.Refs(b), a, b, c)
	same(t, base.Referrers(a), a, b)
	same(t, base.Referrers(b), b)
	// one that is valid stays as it is
	want(t, base.Register(b, "other", []string{z}), api.ErrNone)
	n := x.Len()
	want(t, base.Register(b, "other", nil), api.OK)
	if d, ok := base.Deriver(b); d != "of b" || !ok || x.Len() != n {
		t.Fatal(d)
	}
	if d, ok := base.Deriver(z); d != "" || ok || base.Valid(z) || !base.Valid(b) || base.Valid("") {
		t.Fatal("valid")
	}
	// the keys
	for _, key := range []string{"o" + b, "e" + b + "/" + c, "r" + c + "/" + b} {
		if _, ok := x.Get(key); !ok {
			t.Fatal(key)
		}
	}
}

// P12.2: the batches
func TestBatches(t *testing.T) {
	d := disk.New(1 << 20)
	base, _ := Open(table(t, d))
	base.Register(a, "d", nil)
	base.Register(c, "d", nil)
	at := d.Used()
	base.Register(b, "d", []string{c, a})
	log, _ := d.Read("log.0")
	s := string(log[at:])
	last := 0
	for _, key := range []string{"o" + b, "e" + b + "/" + a, "r" + a + "/" + b, "e" + b + "/" + c, "r" + c + "/" + b} {
		i := strings.Index(s, key)
		if i < last {
			t.Fatalf("%s stands at %d", key, i)
		}
		last = i
	}
}

// P12.2: Unregister
func TestUnregister(t *testing.T) {
	base, x := fresh(t)
	base.Register(a, "", []string{a})
	base.Register(b, "", []string{a})
	base.Register(c, "", []string{b, a})
	base.Root("r", b)
	many := make([]string, 401)
	for i := range many {
		many[i] = z
	}
	want(t, base.Unregister(append(many, "x")), api.ErrName)
	want(t, base.Unregister(many), api.ErrLimit)
	want(t, base.Unregister(many[:400]), api.ErrNone)
	want(t, base.Unregister([]string{a, z}), api.ErrNone)
	want(t, base.Unregister([]string{a, b}), api.ErrState)
	want(t, base.Unregister([]string{c, b, a}), api.ErrState)
	want(t, base.Unregister([]string{c, c}), api.OK)
	same(t, base.Objects(), a, b)
	same(t, base.Referrers(b))
	want(t, base.Unroot("r"), api.OK)
	want(t, base.Unregister([]string{b, a, b}), api.OK)
	want(t, base.Unregister(nil), api.OK)
	if x.Len() != 0 {
		t.Fatal(x.Len())
	}
	want(t, base.Unregister([]string{a}), api.ErrNone)
	// a batch that is too large for the table
	for i := range 400 {
		want(t, base.Register(obj(i+1000), "", nil), api.OK)
	}
	var refs []string
	for i := range 300 {
		refs = append(refs, obj(i+1000))
	}
	base.Register(a, "", refs)
	base.Register(b, "", refs)
	was := all(base)
	want(t, base.Unregister([]string{a, b}), api.ErrLimit)
	if all(base) != was {
		t.Fatal("changed")
	}
}

// P12.3
func TestRoots(t *testing.T) {
	base, _ := fresh(t)
	base.Register(a, "", nil)
	base.Register(b, "", nil)
	want(t, base.Root(".r", "x"), api.ErrArg)
	want(t, base.Root("r", "x"), api.ErrName)
	want(t, base.Root("r", z), api.ErrNone)
	want(t, base.Root("r", a), api.OK)
	want(t, base.Root("q", a), api.OK)
	want(t, base.Root("r", b), api.OK)
	if l := base.Roots(); !slices.Equal(l, [][2]string{{"q", a}, {"r", b}}) {
		t.Fatal(l)
	}
	want(t, base.Unregister([]string{a}), api.ErrState)
	want(t, base.Unroot(""), api.ErrArg)
	want(t, base.Unroot("s"), api.ErrNone)
	want(t, base.Unroot("q"), api.OK)
	want(t, base.Unroot("q"), api.ErrNone)
	want(t, base.Unregister([]string{a}), api.OK)
}

// P12.4
func TestGenerations(t *testing.T) {
	base, _ := fresh(t)
	big := make([]byte, kv.MaxValue+1)
	for _, n := range []int64{0, -1, MaxGen + 1, math.MaxInt64, math.MinInt64} {
		want(t, base.Keep(n, big, true), api.ErrArg)
		want(t, base.Forget(n), api.ErrGen)
		want(t, base.Switch(n), api.ErrGen)
	}
	want(t, base.Keep(1, big, true), api.ErrLimit)
	if _, ok := base.Current(); ok || base.Generations() != nil {
		t.Fatal("kept")
	}
	want(t, base.Keep(MaxGen, big[1:], false), api.OK)
	if n, ok := base.Current(); ok || n != 0 {
		t.Fatal("current")
	}
	want(t, base.Keep(300, []byte("x"), true), api.OK)
	want(t, base.Keep(2, nil, false), api.OK)
	want(t, base.Keep(2, []byte("y"), false), api.OK)
	if l := base.Generations(); !slices.Equal(l, []int64{2, 300, MaxGen}) {
		t.Fatal(l)
	}
	if v, ok := base.Generation(2); !ok || string(v) != "y" {
		t.Fatal(v)
	}
	want(t, base.Forget(300), api.ErrCurrent)
	want(t, base.Switch(3), api.ErrGen)
	want(t, base.Switch(2), api.OK)
	want(t, base.Switch(2), api.OK)
	want(t, base.Forget(300), api.OK)
	want(t, base.Forget(300), api.ErrGen)
	if n, ok := base.Current(); !ok || n != 2 {
		t.Fatal(n)
	}
}

// P12.5, P12.7: closures, over more pages than one
func TestClosure(t *testing.T) {
	base, x := fresh(t)
	var l []string
	for i := range 450 {
		var refs []string
		for _, j := range []int{i - 1, i / 2, i - 7} {
			if j >= 0 && j < i && i%9 != 0 {
				refs = append(refs, l[j])
			}
		}
		l = append(l, obj(i))
		want(t, base.Register(l[i], "d", refs), api.OK)
	}
	sorted := slices.Clone(l)
	slices.Sort(sorted)
	same(t, base.Objects(), sorted...)
	for i := range l {
		in := map[string]bool{l[i]: true}
		for j := i; j >= 0; j-- {
			for _, r := range base.Refs(l[j]) {
				in[r] = in[r] || in[l[j]]
			}
		}
		var s []string
		for o, ok := range in {
			if ok {
				s = append(s, o)
			}
		}
		slices.Sort(s)
		same(t, base.Closure([]string{z, l[i], "junk", l[i]}), s...)
	}
	if base.Closure(nil) != nil || base.Closure([]string{z}) != nil {
		t.Fatal("of nothing")
	}
	if again, e := Open(x); e != api.OK || all(again) != all(base) {
		t.Fatal("opened again")
	}
}

// P12.6
func TestCopies(t *testing.T) {
	base, _ := fresh(t)
	base.Register(a, "", nil)
	refs, objects := []string{b, a}, []string{b, a}
	base.Register(b, "", refs)
	value := []byte("value")
	base.Keep(1, value, true)
	value[0] = 'x'
	v, _ := base.Generation(1)
	v[1] = 'x'
	if v, _ = base.Generation(1); string(v) != "value" {
		t.Fatal("kept")
	}
	base.Closure(objects)
	base.Unregister(objects)
	same(t, refs, b, a)
	same(t, objects, b, a)
}

// P12.7: wherever the power goes, a base is right, and each batch is there as a whole, or not at all.
func TestFollows(t *testing.T) {
	calls := []func(base *Base) api.Errno{
		func(base *Base) api.Errno { return base.Register(a, "da", nil) },
		func(base *Base) api.Errno { return base.Register(b, "db", []string{a, b}) },
		func(base *Base) api.Errno { return base.Root("r", b) },
		func(base *Base) api.Errno { return base.Keep(1, []byte("one"), true) },
		func(base *Base) api.Errno { return base.Keep(2, []byte("two"), true) },
		func(base *Base) api.Errno { return base.Compact() },
		func(base *Base) api.Errno { return base.Forget(1) },
		func(base *Base) api.Errno { return base.Unroot("r") },
		func(base *Base) api.Errno { return base.Unregister([]string{a, b}) },
	}
	for fail := range 30 {
		for _, keep := range []int{0, 1, 7, 40, 100, 150, 200, 1000} {
			d := disk.New(1 << 20)
			base, _ := Open(table(t, d))
			ideal, _ := fresh(t)
			d.Fail(fail)
			sure, next := all(base), all(base)
			for _, call := range calls {
				call(ideal)
				next = all(ideal)
				if call(base) != api.OK {
					break
				}
				sure = next
			}
			if !d.Off() {
				continue
			}
			if all(base) != sure {
				t.Fatal("with an error it is another one")
			}
			d.On([]int{keep, keep})
			again, e := Open(table(t, d))
			if e != api.OK {
				t.Fatal(e)
			}
			if s := all(again); s != sure && s != next {
				t.Fatal(s)
			}
		}
	}
}
