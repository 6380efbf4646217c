package kv

import (
	"bytes"
	"math"
	"math/rand"
	"slices"
	"strconv"
	"strings"
	"testing"

	"tithebarn/api"
	"tithebarn/disk"
	"tithebarn/wal"
)

const quota = 1 << 24

func open(t *testing.T, d *disk.Disk) *Table {
	t.Helper()
	x, e := Open(d)
	if e != api.OK || x == nil {
		t.Fatalf("Open: %d", e)
	}
	return x
}

func want(t *testing.T, got, wanted api.Errno) {
	t.Helper()
	if got != wanted {
		t.Fatalf("error %d, want %d", got, wanted)
	}
}

func put(key, value string) Op { return Op{Key: key, Value: []byte(value)} }

func gone(key string) Op { return Op{Key: key, Value: []byte("of no account"), Gone: true} }

func told(l []Pair) string {
	var s []string
	for _, p := range l {
		s = append(s, p.Key+" "+string(p.Value))
	}
	return strings.Join(s, ", ")
}

func all(x *Table) string { return told(x.Range("", "", math.MaxInt)) }

// The document's examples, and P6.3
func TestExamples(t *testing.T) {
	d := disk.New(quota)
	x := open(t, d)
	want(t, x.Apply([]Op{put("b", "1"), put("a", "2"), put("b", "3")}), api.OK)
	if x.Len() != 2 || told(x.Range("", "", 9)) != "a 2, b 3" || told(x.Range("b", "", 9)) != "b 3" {
		t.Fatal(all(x))
	}
	want(t, x.Apply([]Op{gone("a"), put("c", "4")}), api.OK)
	if v, ok := x.Get("a"); ok || v != nil {
		t.Fatal("a is there")
	}
	if v, ok := x.Get("c"); !ok || string(v) != "4" {
		t.Fatal("c")
	}
	x.Apply([]Op{put("ca", ""), put("d", "5")})
	for _, c := range []struct {
		from, to string
		most     int
		want     string
	}{{"", "", 0, ""}, {"", "", -1, ""}, {"", "", math.MinInt, ""}, {"", "c", 9, "b 3"}, {"c", "d", 9, "c 4, ca "}, {"c", "d", 1, "c 4"}, {"bb", "", 2, "c 4, ca "}, {"e", "", 9, ""}, {"d", "b", 9, ""}, {"c", "c", 9, ""}} {
		if s := told(x.Range(c.from, c.to, c.most)); s != c.want {
			t.Fatalf("%v: %s", c, s)
		}
	}
	if all(open(t, d)) != all(x) {
		t.Fatal("opened anew")
	}
}

// The bytes
func TestBytes(t *testing.T) {
	if b := batchBytes([]Op{put("a", "2")}); !bytes.Equal(b, []byte{0, 0, 0, 1, 0, 0, 1, 'a', 0, 0, 0, 1, '2'}) {
		t.Fatalf("%x", b)
	}
	d := disk.New(quota)
	x := open(t, d)
	x.Apply([]Op{put("b", "xy"), put("a", ""), gone("z")})
	x.Apply(nil)
	l, _ := wal.Open(d)
	b, _ := l.Record(0)
	if string(b) != "\x00\x00\x00\x03\x00\x00\x01b\x00\x00\x00\x02xy\x00\x00\x01a\x00\x00\x00\x00\x01\x00\x01z\x00\x00\x00\x00" {
		t.Fatalf("%q", b)
	}
	if b, ok := l.Record(1); !ok || string(b) != "\x00\x00\x00\x00" {
		t.Fatalf("%q", b)
	}
	table := "\x00\x00\x00\x02\x00\x01a\x00\x00\x00\x00\x00\x01b\x00\x00\x00\x02xy"
	if string(x.Save()) != table {
		t.Fatalf("%q", x.Save())
	}
	want(t, x.Compact(), api.OK)
	l, _ = wal.Open(d)
	if string(l.State()) != table || l.Count() != 0 || l.Generation() != 1 {
		t.Fatalf("%q", l.State())
	}
	if all(open(t, d)) != "a , b xy" {
		t.Fatal("of a state")
	}
}

// P6.1
func TestOpen(t *testing.T) {
	if x, e := Open(nil); x != nil || e != api.ErrNil {
		t.Fatal(e)
	}
	d := disk.New(quota)
	d.Crash()
	if x, e := Open(d); x != nil || e != api.ErrDisk {
		t.Fatal(e)
	}
	row := "\x00\x01a\x00\x00\x00\x01x"
	long := "\x01\x00" + strings.Repeat("k", 256) + "\x00\x00\x00\x00"
	big := "\x00\x01b\x00\x01\x00\x01" + strings.Repeat("v", 65537)
	records := []string{"", "\x00\x00\x00", "\x00\x00\x00\x00x", "\x00\x00\x00\x01", "\x00\x00\x00\x01\x02" + row, "\x00\x00\x00\x01\x01" + row, "\x00\x00\x00\x01\x00\x00\x00\x00\x00\x00\x00", "\x00\x00\x00\x01\x00" + long, "\x00\x00\x00\x01\x00" + big, "\xff\xff\xff\xff\x00" + row, "\x00\x00\x00\x01\x00" + row + "y"}
	for _, b := range records {
		d = disk.New(quota)
		l, _ := wal.Open(d)
		l.Append([]byte("\x00\x00\x00\x01\x00" + row))
		l.Append([]byte(b))
		l.Commit()
		if x, e := Open(d); x != nil || e != api.ErrJournal {
			t.Fatalf("%q: %d", b, e)
		}
	}
	for _, b := range []string{"\x00", "\x00\x00\x00\x01", "\x00\x00\x00\x00x", "\x00\x00\x00\x02" + row + row, "\x00\x00\x00\x02\x00\x01b\x00\x00\x00\x00" + row, "\x00\x00\x00\x01" + long, "\x00\x00\x00\x01" + big, "\x00\x00\x00\x01\x00" + row, "\x00\x00\x00\x01\x00\x00\x00\x00\x00\x00", "\xff\xff\xff\xff" + row} {
		d = disk.New(quota)
		l, _ := wal.Open(d)
		l.Checkpoint([]byte(b))
		if x, e := Open(d); x != nil || e != api.ErrJournal {
			t.Fatalf("%q: %d", b, e)
		}
	}
	for _, b := range []string{"", "\x00\x00\x00\x00", "\x00\x00\x00\x01" + row} {
		d = disk.New(quota)
		l, _ := wal.Open(d)
		l.Checkpoint([]byte(b))
		if x := open(t, d); x.Len() != len(b)/12 {
			t.Fatalf("%q", b)
		}
	}
}

// P6.2: what is refused
func TestRefused(t *testing.T) {
	var none *Table
	want(t, none.Apply(nil), api.ErrNil)
	want(t, none.Compact(), api.ErrNil)
	want(t, none.Broken(), api.ErrNil)
	if _, ok := none.Get("a"); ok || none.Len() != 0 || none.Range("", "", 1) != nil || none.Save() != nil {
		t.Fatal("nil")
	}
	d := disk.New(quota)
	x := open(t, d)
	long := strings.Repeat("k", 256)
	big := make([]byte, MaxValue+1)
	many := make([]Op, MaxBatch+1)
	want(t, x.Apply(many), api.ErrLimit)
	want(t, x.Apply(many[:MaxBatch]), api.ErrArg)
	want(t, x.Apply([]Op{{Key: "a", Value: big}, {Key: long}}), api.ErrArg)
	want(t, x.Apply([]Op{put("a", "1"), {Key: "a", Value: big}}), api.ErrLimit)
	var wide []Op
	for i := range 16 {
		wide = append(wide, Op{Key: strconv.Itoa(i), Value: big[1:]})
	}
	want(t, x.Apply(wide), api.ErrLimit)
	if x.Len() != 0 || d.Steps() != 0 || x.Broken() != api.OK {
		t.Fatal("what is refused changes something")
	}
	// just so many bytes as a record may have, and one more
	size := 4 + 16*7 + 10 + 6*2 + 15*MaxValue
	wide[15].Value = make([]byte, wal.MaxRecord-size+1)
	want(t, x.Apply(wide), api.ErrLimit)
	wide[15].Value = wide[15].Value[1:]
	want(t, x.Apply(wide), api.OK)
	if MaxKey != 255 || MaxValue != 65536 || MaxBatch != 1000 || Big != 262144 {
		t.Fatal("limits")
	}
	want(t, x.Apply([]Op{{Key: long[1:], Value: big[1:]}, {Key: "gone", Value: big, Gone: true}}), api.OK)
	if x.Len() != 17 {
		t.Fatal(x.Len())
	}
	for i := range many {
		many[i] = put("m"+strconv.Itoa(i), "x")
	}
	want(t, x.Apply(many[1:]), api.OK)
	if x.Len() != 1017 || all(open(t, d)) != all(x) {
		t.Fatal(x.Len())
	}
}

// P6.2: a log that grows is made short
func TestBig(t *testing.T) {
	d := disk.New(quota)
	x := open(t, d)
	value := strings.Repeat("v", 60000)
	for i := range 4 {
		want(t, x.Apply([]Op{put("k", value+strconv.Itoa(i))}), api.OK)
	}
	if slices.Contains(d.Names(), "ck") {
		t.Fatal("short too early")
	}
	want(t, x.Apply([]Op{put("k", value)}), api.OK)
	if !slices.Equal(d.Names(), []string{"ck"}) {
		t.Fatal(d.Names())
	}
	// at just Big it is left as it is
	d = disk.New(quota)
	x = open(t, d)
	for range 4 {
		want(t, x.Apply([]Op{put("k", value)}), api.OK)
	}
	want(t, x.Apply([]Op{{Key: "k", Value: make([]byte, Big-d.Used()-17-4-7-1)}}), api.OK)
	if d.Used() != Big || slices.Contains(d.Names(), "ck") {
		t.Fatal("at Big", d.Used(), d.Names())
	}
	want(t, x.Apply(nil), api.OK)
	if !slices.Equal(d.Names(), []string{"ck"}) {
		t.Fatal("above Big", d.Names())
	}
	// no room for the batch: it is made short, and the batch is put
	d = disk.New(400000)
	x = open(t, d)
	for i := range 3 {
		want(t, x.Apply([]Op{put("k", value+strconv.Itoa(i))}), api.OK)
	}
	want(t, x.Apply([]Op{put("k", "small")}), api.OK)
	want(t, d.Append("other", make([]byte, 380000-d.Used())), api.OK)
	for _, key := range []string{"l", "m", "n"} {
		want(t, x.Apply([]Op{put(key, value)}), api.OK)
	}
	was := all(x)
	want(t, x.Apply([]Op{put("o", value)}), api.ErrFull)
	if x.Len() != 4 || x.Broken() != api.OK || all(x) != was || all(open(t, d)) != was {
		t.Fatal("full")
	}
	want(t, x.Apply([]Op{gone("l")}), api.OK)
	// one whose Checkpoint behind a batch breaks the log: the batch is done
	d = disk.New(quota)
	x = open(t, d)
	for i := range 4 {
		want(t, x.Apply([]Op{put("k", value+strconv.Itoa(i))}), api.OK)
	}
	d.Fail(3)
	want(t, x.Apply([]Op{put("k", value)}), api.OK)
	if v, _ := x.Get("k"); string(v) != value {
		t.Fatal("the batch is not done")
	}
	want(t, x.Broken(), api.ErrDisk)
	want(t, x.Apply(make([]Op, MaxBatch+1)), api.ErrDisk)
	d.On(nil)
	if all(open(t, d)) != "k "+value {
		t.Fatal("behind")
	}
}

// P6.4
func TestCopies(t *testing.T) {
	x := open(t, disk.New(quota))
	v := []byte("123456")
	l := []Op{{Key: "a", Value: v[:3]}}
	x.Apply(l)
	v[0], l[0].Key = 'x', "b"
	if string(v) != "x23456" || all(x) != "a 123" {
		t.Fatal("kept")
	}
	g, _ := x.Get("a")
	g[0] = 'y'
	x.Range("", "", 1)[0].Value[0] = 'z'
	x.Save()[5] = 'q'
	if all(x) != "a 123" {
		t.Fatal(all(x))
	}
}

// Pages hold what a map holds, in order.
func TestPages(t *testing.T) {
	r := rand.New(rand.NewSource(6))
	x, m := open(t, disk.New(quota)), map[string]string{}
	for range 150 {
		var l []Op
		for range r.Intn(40) {
			key := strconv.Itoa(r.Intn(900))
			if r.Intn(3) == 0 {
				l = append(l, gone(key))
				delete(m, key)
			} else {
				l = append(l, put(key, key+"!"))
				m[key] = key + "!"
			}
		}
		want(t, x.Apply(l), api.OK)
		from, to := strconv.Itoa(r.Intn(900)), strconv.Itoa(r.Intn(900))
		var s []string
		for key, value := range m {
			if key >= from && key < to {
				s = append(s, key+" "+value)
			}
		}
		slices.Sort(s)
		if x.Len() != len(m) || told(x.Range(from, to, 2000)) != strings.Join(s, ", ") {
			t.Fatal("another table")
		}
	}
}

// P6.5
func TestFollows(t *testing.T) {
	batches := [][]Op{{put("a", "1"), put("b", "2")}, {gone("a"), put("c", "3")}, {put("a", "4"), put("b", "5"), gone("c")}, {put("d", "6")}}
	for fail := range 20 {
		for keep := range 70 {
			d := disk.New(quota)
			x := open(t, d)
			d.Fail(fail)
			sure, next := "", ""
			for i, l := range batches {
				if i == 2 && x.Compact() != api.OK {
					next = sure
					break
				}
				was := map[string]string{}
				for _, p := range x.Range("", "", 99) {
					was[p.Key] = string(p.Value)
				}
				for _, op := range l {
					if was[op.Key] = string(op.Value); op.Gone {
						delete(was, op.Key)
					}
				}
				var s []string
				for key, value := range was {
					s = append(s, key+" "+value)
				}
				slices.Sort(s)
				next = strings.Join(s, ", ")
				if e := x.Apply(l); e != api.OK {
					want(t, e, api.ErrDisk)
					if all(x) != sure {
						t.Fatal("with an error the table is another one")
					}
					break
				}
				sure = next
			}
			if !d.Off() {
				continue
			}
			d.On([]int{keep, keep, keep})
			x = open(t, d)
			if s := all(x); s != sure && s != next {
				t.Fatalf("fail %d keep %d: %s; want %s or %s", fail, keep, s, sure, next)
			}
			if all(open(t, d)) != all(x) {
				t.Fatal("opened again")
			}
		}
	}
}
