package scan

import (
	"slices"
	"strings"
	"testing"

	"tithebarn/api"
	"tithebarn/naming"
)

var (
	noughts = strings.Repeat("0", 32)
	ones    = strings.Repeat("1", 32)
	mixed   = "0123456789abcdfghijklmnpqrsvwxyz"
)

func file(data string) api.Node { return api.Node{Kind: api.File, Data: data} }

func dir(l ...any) api.Node {
	n := api.Node{Kind: api.Dir}
	for i := 0; i < len(l); i += 2 {
		n.Entries = append(n.Entries, api.Entry{Name: l[i].(string), Node: l[i+1].(api.Node)})
	}
	return n
}

// P10.1
func TestAll(t *testing.T) {
	for _, c := range []struct {
		b    string
		want []string
	}{
		{"", nil},
		{noughts[1:], nil},
		{noughts, []string{noughts}},
		{noughts + "0", []string{noughts}},
		{"e" + noughts + "e", []string{noughts}},
		{noughts + "1", []string{noughts, noughts[1:] + "1"}},
		{noughts[1:] + "e" + noughts[1:], nil},
		{noughts[1:] + "A" + noughts, []string{noughts}},
		{"\xff" + mixed + "-" + ones + " " + mixed + "\x00" + noughts, []string{mixed, ones, noughts}},
		{noughts[1:] + "o", nil}, {noughts[1:] + "t", nil}, {noughts[1:] + "u", nil}, {noughts[1:] + "/", nil}, {noughts[1:] + ":", nil}, {noughts[1:] + "{", nil}, {noughts[1:] + "`", nil},
	} {
		if l := All([]byte(c.b)); !slices.Equal(l, c.want) {
			t.Errorf("%q: %q", c.b, l)
		}
	}
	if All(nil) != nil {
		t.Error("nil")
	}
	for c := range 256 {
		_, ok := naming.Bytes(string([]byte{byte(c)}) + noughts[1:])
		if got := All([]byte(string([]byte{byte(c)}) + noughts[1:])); (len(got) == 1) != ok {
			t.Errorf("byte %d", c)
		}
	}
}

// P10.2
func TestRefs(t *testing.T) {
	names := []string{ones + "-b", noughts + "-a", "x", noughts + "-", noughts, mixed + "-c", noughts + "-a", noughts + "-z", noughts + "-.a"}
	b := []byte("!" + noughts + "." + mixed)
	want := []string{noughts + "-a", mixed + "-c", noughts + "-a", noughts + "-z"}
	if l := Refs(b, names); !slices.Equal(l, want) {
		t.Fatalf("%q", l)
	}
	if Refs(nil, names) != nil || Refs(b, nil) != nil || Refs(b[:20], names) != nil {
		t.Fatal("of nothing")
	}
}

// P10.3
func TestTree(t *testing.T) {
	names := []string{ones + "-b", noughts + "-a", mixed + "-c"}
	exec := api.Node{Kind: api.Exec, Data: ones}
	link := api.Node{Kind: api.Link, Data: "../" + mixed + "-c/x"}
	for i, c := range []struct {
		n    api.Node
		want []string
	}{
		{file(noughts), names[1:2]},
		{dir("a", exec, "b", dir("c", link)), []string{names[0], names[2]}},
		{dir(noughts+"-x", file(""), "b", dir(mixed, dir())), names[1:]},
		{dir(noughts[:16], file(noughts[:16])), nil},
		{dir("a", file(noughts[:16]), "b", file(noughts[:16])), nil},
		{dir("a", dir(noughts[:16], dir(noughts[:16], file("")))), nil},
		{dir("b", file(noughts), "a", file(noughts)), nil},
		{api.Node{Data: noughts}, nil},
		{dir("", file(noughts)), nil},
	} {
		if l := Tree(c.n, names); !slices.Equal(l, c.want) {
			t.Errorf("%d: %q", i, l)
		}
	}
}

// P10.4
func TestReadOnly(t *testing.T) {
	b := []byte(noughts)
	names := []string{noughts + "-a", ones + "-b"}
	l, all := Refs(b, names), All(b)
	b[0], l[0] = '1', "x"
	if names[0] != noughts+"-a" || names[1] != ones+"-b" || all[0] != noughts {
		t.Fatal("shared")
	}
}

// P10.5
func TestFollows(t *testing.T) {
	names := []string{noughts + "-a", ones + "-b", mixed + "-c", noughts[1:] + "1-d"}
	rows := []string{"", noughts, noughts[:9], noughts[9:], ones, mixed[:20], mixed[20:] + "1", "e", "1"}
	for _, a := range rows {
		for _, b := range rows {
			both := Refs([]byte(a+b), names)
			for _, name := range names {
				inA, inB := slices.Contains(Refs([]byte(a), names), name), slices.Contains(Refs([]byte(b), names), name)
				crosses := false
				for i := 1; i < 32; i++ {
					crosses = crosses || strings.HasSuffix(a, name[:i]) && strings.HasPrefix(b, name[i:32])
				}
				if slices.Contains(both, name) != (inA || inB || crosses) {
					t.Fatalf("%q %q %q", a, b, name)
				}
			}
		}
	}
}
