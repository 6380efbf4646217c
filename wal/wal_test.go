package wal

import (
	"bytes"
	"hash/crc32"
	"math"
	"slices"
	"strconv"
	"strings"
	"testing"

	"tithebarn/api"
	"tithebarn/disk"
)

const quota = 1 << 24

func open(t *testing.T, d *disk.Disk) *Log {
	t.Helper()
	l, e := Open(d)
	if e != api.OK || l == nil {
		t.Fatalf("Open: %d", e)
	}
	return l
}

func want(t *testing.T, got, wanted api.Errno) {
	t.Helper()
	if got != wanted {
		t.Fatalf("error %d, want %d", got, wanted)
	}
}

func told(l *Log) string {
	s := []string{strconv.Itoa(int(l.Generation())), string(l.State())}
	for i := range l.Count() {
		b, _ := l.Record(i)
		s = append(s, string(b))
	}
	return strings.Join(s, ",")
}

// byWords is a frame by the document's words.
func byWords(kind byte, n uint64, b []byte) []byte {
	f := []byte{kind}
	for i := 7; i >= 0; i-- {
		f = append(f, byte(n>>(8*i)))
	}
	for i := 3; i >= 0; i-- {
		f = append(f, byte(len(b)>>(8*i)))
	}
	f = append(f, b...)
	c := crc32.ChecksumIEEE(f)
	return append(f, byte(c>>24), byte(c>>16), byte(c>>8), byte(c))
}

// The document's examples.
func TestExamples(t *testing.T) {
	d := disk.New(quota)
	l := open(t, d)
	want(t, l.Append([]byte("ab")), api.OK)
	want(t, l.Commit(), api.OK)
	l = open(t, d)
	if told(l) != "0,,ab" || l.Sure() != 1 {
		t.Fatal(told(l))
	}
	if b, ok := l.Record(0); !ok || string(b) != "ab" {
		t.Fatal("Record")
	}
	if MaxRecord != 1048576 || MaxState != 8000000 {
		t.Fatal("limits")
	}
	want(t, l.Append([]byte("cd")), api.OK)
	if l.Count() != 2 || l.Sure() != 1 {
		t.Fatal("sure")
	}
	d.Crash()
	d.On([]int{5})
	l = open(t, d)
	if told(l) != "0,,ab" {
		t.Fatal(told(l))
	}
	want(t, l.Checkpoint([]byte("xy")), api.OK)
	if !slices.Equal(d.Names(), []string{"ck"}) || told(l) != "1,xy" || l.Size() != 0 {
		t.Fatal(d.Names(), told(l))
	}
}

// P5.1, and how files look
func TestFiles(t *testing.T) {
	d := disk.New(quota)
	l := open(t, d)
	l.Append([]byte("one"))
	l.Append(nil)
	b, _ := d.Read("log.0")
	if !bytes.Equal(b, append(byWords('R', 1, []byte("one")), byWords('R', 2, nil)...)) || l.Size() != len(b) {
		t.Fatalf("%x", b)
	}
	want(t, l.Checkpoint(nil), api.ErrArg)
	want(t, l.Commit(), api.OK)
	want(t, l.Checkpoint([]byte("state")), api.OK)
	b, _ = d.Read("ck")
	if !bytes.Equal(b, byWords('K', 1, []byte("state"))) {
		t.Fatalf("%x", b)
	}
	l.Append([]byte("x"))
	if !slices.Equal(d.Names(), []string{"ck", "log.1"}) {
		t.Fatal(d.Names())
	}
	l.Commit()
	// what doesn't belong is removed, by names rising
	for _, name := range []string{"ck.tmp", "log.", "log.0", "log.01", "log.2", "log.x", "ck.tmpx", "o.log.3", "log"} {
		d.Append(name, []byte("zz"))
	}
	n := d.Steps()
	if l = open(t, d); told(l) != "1,state,x" || l.Sure() != 1 {
		t.Fatal(told(l))
	}
	if !slices.Equal(d.Names(), []string{"ck", "ck.tmpx", "log", "log.1", "o.log.3"}) {
		t.Fatal(d.Names())
	}
	if d.Steps() != n+7 { // six Removes, one Sync
		t.Fatal(d.Steps() - n)
	}
}

// P5.1: what is no state's file
func TestBadState(t *testing.T) {
	good := byWords('K', 3, []byte("ab"))
	wrong := [][]byte{nil, good[:5], good[:len(good)-1], append(slices.Clone(good), 0), byWords('R', 3, []byte("ab")), byWords('K', 0, nil), byWords('K', 1<<62+1, nil), byWords('K', math.MaxUint64, nil)}
	for i := range good {
		w := slices.Clone(good)
		w[i] ^= 4
		wrong = append(wrong, w)
	}
	for _, w := range wrong {
		d := disk.New(quota)
		d.Append("ck", w)
		d.Append("log.0", []byte("x"))
		if l, e := Open(d); e != api.ErrJournal || l != nil {
			t.Fatalf("%x: %d", w, e)
		}
		if len(d.Names()) != 2 {
			t.Fatal("an error changes files")
		}
	}
	for _, g := range []uint64{1, 3, 1 << 62} {
		d := disk.New(quota)
		d.Append("ck", byWords('K', g, []byte("ab")))
		if l := open(t, d); l.Generation() != int64(g) || string(l.State()) != "ab" {
			t.Fatal(told(l))
		}
	}
}

// P5.1: what stands behind the records is cut
func TestBadRecords(t *testing.T) {
	one, two := byWords('R', 1, []byte("one")), byWords('R', 2, []byte("two"))
	long := byWords('R', 2, make([]byte, MaxRecord+1))
	for _, tail := range [][]byte{{}, {'R'}, two[:len(two)-1], byWords('R', 3, nil), byWords('K', 2, nil), byWords('R', 1, nil), long, append(byWords('K', 2, nil), two...), bytes.Repeat([]byte{255}, 40)} {
		d := disk.New(quota)
		d.Append("log.0", append(slices.Clone(one), tail...))
		l := open(t, d)
		if told(l) != "0,,one" || l.Size() != len(one) || l.Sure() != 1 {
			t.Fatalf("%x: %s", tail, told(l))
		}
		d.Crash()
		d.On(nil)
		if b, _ := d.Read("log.0"); !bytes.Equal(b, one) {
			t.Fatal("the file is not settled as its records")
		}
	}
	for i := range two {
		w := slices.Clone(two)
		w[i] ^= 1
		d := disk.New(quota)
		d.Append("log.0", append(slices.Clone(one), w...))
		if l := open(t, d); l.Count() != 1 {
			t.Fatalf("byte %d", i)
		}
	}
	d := disk.New(quota)
	d.Append("log.0", byWords('R', 1, make([]byte, MaxRecord)))
	if l := open(t, d); l.Count() != 1 {
		t.Fatal("the longest record")
	}
}

// P5.1, P5.2, P5.3, P5.4: errors
func TestErrors(t *testing.T) {
	if l, e := Open(nil); l != nil || e != api.ErrNil {
		t.Fatal(e)
	}
	d := disk.New(100)
	d.Crash()
	if l, e := Open(d); l != nil || e != api.ErrDisk {
		t.Fatal(e)
	}
	var none *Log
	if _, ok := none.Record(0); ok || len(none.State()) != 0 || none.Generation() != 0 || none.Count() != 0 || none.Sure() != 0 || none.Size() != 0 {
		t.Fatal("nil")
	}
	for _, e := range []api.Errno{none.Broken(), none.Append(nil), none.Commit(), none.Checkpoint(nil)} {
		want(t, e, api.ErrNil)
	}
	d.On(nil)
	l := open(t, d)
	for _, i := range []int{-1, 0, math.MaxInt, math.MinInt} {
		if b, ok := l.Record(i); ok || b != nil {
			t.Fatal(i)
		}
	}
	want(t, l.Append(make([]byte, MaxRecord+1)), api.ErrLimit)
	want(t, l.Append(make([]byte, MaxRecord)), api.ErrFull)
	want(t, l.Checkpoint(make([]byte, MaxState+1)), api.ErrLimit)
	want(t, l.Checkpoint(make([]byte, MaxState)), api.ErrFull)
	if l.Count() != 0 || l.Size() != 0 || l.Broken() != api.OK || told(l) != "0," {
		t.Fatal("an error changes it")
	}
	n := d.Steps()
	want(t, l.Commit(), api.OK)
	if d.Steps() != n {
		t.Fatal("nothing to commit, and a step")
	}
	d = disk.New(2 * quota)
	l = open(t, d)
	for range 7 {
		want(t, l.Append(make([]byte, MaxRecord)), api.OK)
	}
	want(t, l.Append(make([]byte, MaxRecord)), api.ErrLimit) // of the disk: the file
	if l.Count() != 7 || l.Sure() != 0 {
		t.Fatal("a refused record")
	}
	want(t, l.Commit(), api.OK)
	want(t, l.Checkpoint(make([]byte, MaxState)), api.OK)
	if l.Count() != 0 || open(t, d).Generation() != 1 {
		t.Fatal("the longest state")
	}
}

// P5.3, P5.4: a log that is broken
func TestBroken(t *testing.T) {
	d := disk.New(quota)
	l := open(t, d)
	l.Append([]byte("a"))
	l.Commit()
	d.Fail(0)
	want(t, l.Append([]byte("b")), api.ErrDisk)
	d.On(nil)
	for _, e := range []api.Errno{l.Broken(), l.Append(make([]byte, MaxRecord+1)), l.Commit(), l.Checkpoint(make([]byte, MaxState+1))} {
		want(t, e, api.ErrDisk)
	}
	if told(l) != "0,,a" || l.Sure() != 1 || l.Size() != 18 {
		t.Fatal("what was there ahead")
	}
	// a Checkpoint of which only the last Remove fails
	d = disk.New(quota)
	l = open(t, d)
	l.Append([]byte("a"))
	l.Commit()
	d.Fail(3)
	want(t, l.Checkpoint([]byte("s")), api.ErrDisk)
	if told(l) != "1,s" || l.Sure() != 0 || l.Size() != 0 {
		t.Fatal(told(l))
	}
	d.On(nil)
	if l = open(t, d); told(l) != "1,s" || !slices.Equal(d.Names(), []string{"ck"}) {
		t.Fatal(told(l))
	}
	// a ck.tmp that is there ahead
	d = disk.New(quota)
	l = open(t, d)
	d.Append("ck.tmp", []byte("junk"))
	want(t, l.Checkpoint([]byte("s")), api.OK)
	if told(open(t, d)) != "1,s" {
		t.Fatal("junk ahead")
	}
}

// P5.5
func TestCopies(t *testing.T) {
	l := open(t, disk.New(quota))
	b := []byte("abcd")
	l.Append(b[:2])
	l.Commit()
	b[0] = 'x'
	if string(b) != "xbcd" || told(l) != "0,,ab" {
		t.Fatal("kept")
	}
	r, _ := l.Record(0)
	r[0] = 'y'
	if told(l) != "0,,ab" {
		t.Fatal("a record is the log's memory")
	}
	l.Checkpoint(b[:2])
	b[0] = 'z'
	l.State()[1] = 'z'
	if told(l) != "1,xb" {
		t.Fatal(told(l))
	}
}

// script does calls till one is broken; it tells what has to be found: the last state, the sure records, the others.
func script(l *Log) (generation int64, state string, sure, open []string, under string) {
	for i := range 12 {
		b := strings.Repeat(string(rune('a'+i)), i%4)
		if i%5 == 4 {
			if e := l.Checkpoint([]byte(b)); e != api.OK {
				return generation, state, sure, open, "K" + b
			}
			generation, state, sure, open = generation+1, b, nil, nil
			continue
		}
		open = append(open, b)
		if l.Append([]byte(b)) != api.OK {
			break
		}
		if i%5 == 1 {
			continue
		}
		if l.Commit() != api.OK {
			break
		}
		sure, open = append(sure, open...), nil
	}
	return generation, state, sure, open, ""
}

// P5.6
func TestFollows(t *testing.T) {
	for fail := range 40 {
		for keep := range 23 {
			d := disk.New(quota)
			l := open(t, d)
			d.Fail(fail)
			generation, state, sure, rest, under := script(l)
			if !d.Off() {
				continue
			}
			d.On([]int{keep, keep, keep})
			// the power goes again, amid the opening
			d.Fail(keep % 4)
			if _, e := Open(d); e != api.OK {
				want(t, e, api.ErrDisk)
				d.On([]int{keep, keep})
			}
			d.Fail(-1)
			l = open(t, d)
			was := told(l)
			if was != told(open(t, d)) {
				t.Fatal("opened again it is another one")
			}
			if under != "" && l.Generation() == generation+1 {
				if string(l.State()) != under[1:] || l.Count() != 0 {
					t.Fatal(was)
				}
				continue
			}
			if l.Generation() != generation || string(l.State()) != state || l.Count() < len(sure) || l.Count() > len(sure)+len(rest) || l.Sure() != l.Count() {
				t.Fatalf("fail %d keep %d: %s", fail, keep, was)
			}
			for i, b := range append(sure, rest...) {
				if r, ok := l.Record(i); ok && string(r) != b {
					t.Fatalf("fail %d keep %d: record %d of %s", fail, keep, i, was)
				}
			}
		}
	}
}
