package archive

import (
	"bytes"
	"strconv"
	"strings"
	"testing"

	"tithebarn/api"
	"tithebarn/files"
)

func file(data string) api.Node { return api.Node{Kind: api.File, Data: data} }

func dir(l ...any) api.Node {
	n := api.Node{Kind: api.Dir}
	for i := 0; i < len(l); i += 2 {
		n.Entries = append(n.Entries, api.Entry{Name: l[i].(string), Node: l[i+1].(api.Node)})
	}
	return n
}

func trees() map[string]api.Node {
	deep := dir()
	for range 32 {
		deep = dir("d", deep)
	}
	wide := dir()
	for i := range 4095 {
		wide.Entries = append(wide.Entries, api.Entry{Name: strconv.Itoa(100000 + i), Node: file("")})
	}
	return map[string]api.Node{
		"file":  file("hi"),
		"empty": dir(),
		"link":  dir("x", api.Node{Kind: api.Link, Data: "y"}),
		"exec":  dir("a", api.Node{Kind: api.Exec, Data: "\x00\xff"}, "b", dir("c", file(""))),
		"deep":  deep,
		"wide":  wide,
		"big":   file(strings.Repeat("x", api.MaxFile)),
	}
}

// full makes a tree whose archive has just so many bytes.
func full(size int) api.Node {
	n := dir()
	left := size - 7
	for i := 0; left > 0; i++ {
		k := min(left, api.MaxFile+10)
		if r := left - k; r > 0 && r < 10 {
			k -= 10
		}
		n.Entries = append(n.Entries, api.Entry{Name: string(rune('A' + i)), Node: file(strings.Repeat("x", k-10))})
		left -= k
	}
	return n
}

// P8.1
func TestPut(t *testing.T) {
	l := trees()
	for name, want := range map[string]string{"file": "TAR1F\x00\x00\x00\x02hi", "empty": "TAR1D\x00\x00", "link": "TAR1D\x00\x01\x00\x00\x00\x01xL\x00\x00\x00\x01y"} {
		if b, e := Put(l[name]); e != api.OK || string(b) != want {
			t.Errorf("%s: %q, %d", name, b, e)
		}
	}
	if b, e := Put(l["exec"]); e != api.OK || string(b) != "TAR1D\x00\x02\x00\x00\x00\x01aX\x00\x00\x00\x02\x00\xff\x00\x00\x00\x01bD\x00\x01\x00\x00\x00\x01cF\x00\x00\x00\x00" {
		t.Errorf("%q", b)
	}
	for _, n := range []api.Node{{}, dir("b", file(""), "a", file("")), dir("", file("")), file(strings.Repeat("x", api.MaxFile+1)), dir("d", l["deep"])} {
		if b, e := Put(n); e != api.ErrTree || b != nil {
			t.Errorf("%d", e)
		}
	}
	if b, e := Put(full(api.MaxArt)); e != api.OK || len(b) != api.MaxArt {
		t.Errorf("the longest one: %d, %d", len(b), e)
	}
	if b, e := Put(full(api.MaxArt + 1)); e != api.ErrLimit || b != nil {
		t.Errorf("one too long: %d", e)
	}
}

// P8.2
func TestGet(t *testing.T) {
	if n, e := Get(make([]byte, api.MaxArt+1)); e != api.ErrLimit || !files.Same(n, api.Node{}) {
		t.Errorf("too long: %d", e)
	}
	longest := full(api.MaxArt)
	b, _ := Put(longest)
	if n, e := Get(b); e != api.OK || !files.Same(n, longest) {
		t.Errorf("the longest one: %d", e)
	}
	good := "TAR1D\x00\x02\x00\x00\x00\x01aF\x00\x00\x00\x01x\x00\x00\x00\x01bL\x00\x00\x00\x01y"
	if n, e := Get([]byte(good)); e != api.OK || !files.Same(n, dir("a", file("x"), "b", api.Node{Kind: api.Link, Data: "y"})) {
		t.Fatal(n, e)
	}
	deep := "TAR1" + strings.Repeat("D\x00\x01\x00\x00\x00\x01d", 33) + "D\x00\x00"
	wrong := []string{"", "TAR1", "TAR2F\x00\x00\x00\x00", "TAR1G\x00\x00\x00\x00", "TAR1D\x00\x01", "TAR1F\x00\x00\x00\x00x", "TAR1F\xff\xff\xff\xffx", "TAR1L\x00\x00\x00\x00", "TAR1L\x00\x00\x00\x01\x00", "TAR1D\xff\xff", deep, strings.Replace(good, "\x01b", "\x01a", 1), strings.Replace(good, "\x01a", "\x01c", 1), strings.Replace(good, "\x01a", "\x01/", 1), "TAR1" + strings.Repeat("D\x00\x01\x00\x00\x00\x01d", 100000), "TAR1D\x10\x00" + strings.Repeat("\x00\x00\x00\x01aF\x00\x00\x00\x00", 4096)}
	for _, s := range wrong {
		if n, e := Get([]byte(s)); e != api.ErrArchive || !files.Same(n, api.Node{}) {
			t.Errorf("%.40q: %d", s, e)
		}
	}
}

// P8.3
func TestLen(t *testing.T) {
	for name, n := range trees() {
		b, _ := Put(n)
		if Len(n) != len(b) || Len(n) == 0 {
			t.Errorf("%s: %d, %d", name, Len(n), len(b))
		}
	}
	if Len(full(2*api.MaxArt)) != 2*api.MaxArt || Len(api.Node{}) != 0 || Len(dir("", file(""))) != 0 {
		t.Error("too long, or not right")
	}
}

// P8.4
func TestCopies(t *testing.T) {
	b := []byte("TAR1F\x00\x00\x00\x02hi")
	n, _ := Get(b)
	b[9] = 'x'
	if n.Data != "hi" {
		t.Fatal("what was handed in is kept")
	}
	p, _ := Put(n)
	p[4] = 'X'
	if q, _ := Put(n); q[4] != 'F' {
		t.Fatal("what is answered is kept")
	}
}

// P8.5
func TestFollows(t *testing.T) {
	seen := map[string]string{}
	for name, n := range trees() {
		b, e := Put(n)
		m, e2 := Get(b)
		if e != api.OK || e2 != api.OK || !files.Same(m, n) {
			t.Fatal(name, e, e2)
		}
		if seen[string(b)] != "" {
			t.Fatal(name, seen[string(b)])
		}
		seen[string(b)] = name
		for i := 0; i < len(b); i += 1 + len(b)/200 {
			if _, e := Get(b[:i]); e != api.ErrArchive {
				t.Fatal("a beginning of", name)
			}
		}
	}
	// whatever is got is put as the same bytes
	b, _ := Put(trees()["exec"])
	for i := range b {
		for c := range 256 {
			x := bytes.Clone(b)
			x[i] = byte(c)
			if n, e := Get(x); e == api.OK {
				if y, _ := Put(n); !bytes.Equal(x, y) {
					t.Fatalf("%q", x)
				}
			}
		}
	}
}
