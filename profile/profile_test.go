package profile

import (
	"math/rand"
	"slices"
	"strconv"
	"strings"
	"testing"

	"tithebarn/api"
	"tithebarn/catalogue"
	"tithebarn/disk"
	"tithebarn/encode"
	"tithebarn/files"
	"tithebarn/kv"
	"tithebarn/wal"
)

const example = "package a 1\nneeds b *\n|file \"x\" = \"1\"\npackage b 2\n"

// whole is the catalogue of the document's ten examples.
const whole = "package a 1\nneeds b *\n|file \"x\" = \"1\"\npackage b 1\npackage b 2\nconflicts c *\npackage c 1\n|file \"c\" = \"c\"\n"

// linked is one whose objects tell of one another.
const linked = "package app 1\nneeds lib >=1\nneeds tool *\n|for i = 0 to count() - 1\n|file str(i) = input(i)\n|end\npackage lib 1\nneeds base *\n|file \"lib\" = \"1 \" .. input(0)\npackage lib 2\nneeds base *\nconflicts tool =1\n|file \"lib\" = \"2 \" .. input(0)\npackage tool 1\n|exec \"tool\" = \"1\"\npackage tool 2\nneeds base *\n|exec \"tool\" = input(0)\npackage base 1\n|dir \"base\"\n"

const fuel = 10000

func open(t *testing.T, d *disk.Disk) *Profile {
	t.Helper()
	p, e := Open(d)
	if e != api.OK || p == nil {
		t.Fatalf("Open: %d", e)
	}
	return p
}

func fresh(t *testing.T) (*Profile, *disk.Disk) {
	t.Helper()
	d := disk.New(1 << 22)
	return open(t, d), d
}

func want(t *testing.T, got, wanted api.Errno) {
	t.Helper()
	if got != wanted {
		t.Fatalf("error %d, want %d", got, wanted)
	}
}

func made(t *testing.T, n int64, e api.Errno, wanted int64) {
	t.Helper()
	if n != wanted || e != api.OK {
		t.Fatalf("%d, error %d; want %d", n, e, wanted)
	}
}

func failed(t *testing.T, n int64, e, wanted api.Errno) {
	t.Helper()
	if n != 0 || e != wanted {
		t.Fatalf("%d, error %d; want error %d", n, e, wanted)
	}
}

// picks tells a generation's picks.
func (p *Profile) picks(n int64) string {
	g, _ := p.Load(n)
	return strings.Join(g.Picks, ",")
}

// all tells generations, roots, and the current one.
func (p *Profile) all() string {
	s := ""
	for _, n := range p.Generations() {
		g, e := p.Load(n)
		s += strconv.Itoa(int(n)) + ":" + strings.Join(g.Wants, " ") + "/" + strings.Join(g.Picks, ",") + "/" + strings.Join(g.Objects, " ") + strconv.Itoa(int(e)) + ";"
	}
	for _, r := range p.Roots() {
		s += r[0] + ">" + r[1] + ";"
	}
	n, _ := p.Current()
	return s + strconv.Itoa(int(n))
}

// right holds a profile against what is promised of each state (P29.8).
func (p *Profile) right(t *testing.T, text string) {
	t.Helper()
	l, _, _ := catalogue.Parse(text)
	for _, n := range p.Generations() {
		g, e := p.Load(n)
		want(t, e, api.OK)
		var picks []int
		for _, pick := range g.Picks {
			i := slices.IndexFunc(l, func(v api.Variant) bool { return v.Name+" "+v.Version == pick })
			picks = append(picks, i)
		}
		var needs []api.Need
		if len(g.Wants) > 0 {
			needs, _ = catalogue.Wants(strings.Join(g.Wants, " "))
		}
		if !encode.Satisfies(l, needs, picks) {
			t.Fatalf("%d: %v do not satisfy", n, g.Picks)
		}
		for rest := slices.Clone(g.Objects); len(rest) > 0; rest = rest[1:] {
			if _, e := p.Tree(rest[0]); e != api.OK {
				t.Fatalf("%d: %s: %d", n, rest[0], e)
			}
			for _, r := range p.Refs(rest[0]) {
				if r != rest[0] {
					rest = append(rest, r)
				}
			}
		}
	}
}

// The document's examples of the whole
func TestWhole(t *testing.T) {
	p, d := fresh(t)
	n, e := p.Install(whole, "a", fuel)
	made(t, n, e, 1)
	if s := p.picks(1); s != "a 1,b 1" && s != "a 1,b 2" {
		t.Fatal(s)
	}
	n, e = p.Install(whole, "c", fuel)
	made(t, n, e, 2)
	if p.picks(2) != "a 1,b 1,c 1" {
		t.Fatal(p.picks(2))
	}
	n, e = p.Install(whole, "c b@=2", fuel)
	failed(t, n, e, api.ErrUnsat)
	if n, ok := p.Current(); n != 2 || !ok {
		t.Fatal(n)
	}
	n, e = p.Rollback()
	made(t, n, e, 1)
	n, e = p.Rollback()
	failed(t, n, e, api.ErrGen)
	want(t, p.Delete(2), api.OK)
	g, _ := p.Load(1)
	gone, e := p.Collect()
	if e != api.OK || !slices.ContainsFunc(gone, func(o string) bool { return strings.HasSuffix(o, "-c-1") }) {
		t.Fatal(gone, e)
	}
	for _, o := range g.Objects {
		if _, e := p.Tree(o); e != api.OK {
			t.Fatal(e)
		}
	}
	o := g.Objects[0]
	d.Cut("o."+o, 4)
	d.Append("o."+o, []byte("zz"))
	bad, e := p.Verify()
	if e != api.OK || !slices.Equal(bad, []string{o}) {
		t.Fatal(bad, e)
	}
	done, left, e := p.Repair(fuel)
	if e != api.OK || !slices.Equal(done, bad) || left != nil {
		t.Fatal(done, left, e)
	}
	was := p.all()
	n, e = p.Install("package a 1\n|for i = 1 to 1125899906842624\n|end\n", "a", fuel)
	failed(t, n, e, api.ErrFuel)
	d.Append("other", make([]byte, 1<<22-d.Used()))
	n, e = p.Install(whole, "c", fuel)
	failed(t, n, e, api.ErrFull)
	if p.all() != was {
		t.Fatal("changed")
	}
}

// P29.2 and the chapter's examples
func TestInstall(t *testing.T) {
	p, _ := fresh(t)
	n, e := p.Install(example, "a", fuel)
	made(t, n, e, 1)
	g, e := p.Load(1)
	if e != api.OK || !slices.Equal(g.Wants, []string{"a"}) || !slices.Equal(g.Picks, []string{"a 1", "b 2"}) || len(g.Objects) != 2 || !slices.IsSorted(g.Objects) {
		t.Fatal(g, e)
	}
	n, e = p.Remove(example, "a", fuel)
	made(t, n, e, 2)
	if g, _ := p.Load(2); len(g.Wants)+len(g.Picks)+len(g.Objects) != 0 {
		t.Fatal(g)
	}
	n, e = p.Rollback()
	made(t, n, e, 1)
	want(t, p.Delete(2), api.OK)
	if gone, e := p.Collect(); e != api.OK || gone != nil {
		t.Fatal(gone, e)
	}
	n, e = p.Install(example, "c", fuel)
	failed(t, n, e, api.ErrUnsat)
	// words of the same Name take the place of those ahead; twice the same Name stays twice
	n, e = p.Install(example, "b@>=1 b@<3 a@*", fuel)
	made(t, n, e, 2)
	g, _ = p.Load(2)
	if !slices.Equal(g.Wants, []string{"b@>=1", "b@<3", "a@*"}) {
		t.Fatal(g.Wants)
	}
	n, e = p.Install(example, "b", fuel)
	made(t, n, e, 3)
	g, _ = p.Load(3)
	if !slices.Equal(g.Wants, []string{"a@*", "b"}) {
		t.Fatal(g.Wants)
	}
	n, e = p.Remove(example, "a a", fuel)
	made(t, n, e, 4)
	if g, _ = p.Load(4); !slices.Equal(g.Wants, []string{"b"}) || !slices.Equal(g.Picks, []string{"b 2"}) {
		t.Fatal(g)
	}
	// a catalogue in which what stays wanted is no more
	n, e = p.Install("package z 1\n", "z", fuel)
	failed(t, n, e, api.ErrUnsat)
	n, e = p.Remove("", "b", fuel)
	made(t, n, e, 5)
}

// P29.1, P29.2: errors
func TestErrors(t *testing.T) {
	if p, e := Open(nil); p != nil || e != api.ErrNil {
		t.Fatal(e)
	}
	d := disk.New(1 << 20)
	d.Crash()
	if p, e := Open(d); p != nil || e != api.ErrDisk {
		t.Fatal(e)
	}
	spoil := func(key, value string) *disk.Disk {
		d := disk.New(1 << 20)
		x, _ := kv.Open(d)
		x.Apply([]kv.Op{{Key: key, Value: []byte(value)}})
		return d
	}
	log := disk.New(1 << 20)
	l, _ := wal.Open(log)
	l.Append([]byte("junk"))
	l.Commit()
	for i, d := range []*disk.Disk{log, spoil("junk", ""), spoil("g\x00\x00\x00\x00\x00\x00\x00\x01", "junk")} {
		if p, e := Open(d); p != nil || e != api.ErrJournal {
			t.Error(i, e)
		}
	}
	d = disk.New(1 << 20)
	d.Append("t.x", nil)
	d.Fail(0)
	if p, e := Open(d); p != nil || e != api.ErrDisk {
		t.Error(e)
	}

	p, _ := fresh(t)
	p.Install(example, "a", fuel)
	was := p.all()
	many := strings.Repeat("a ", 64) + "a"
	for i, x := range []struct {
		text, words string
		want        api.Errno
	}{
		{"junk", "", api.ErrLine}, {"package a 1\npackage a 1", "", api.ErrTwice}, {strings.Repeat("#", api.MaxText+1), "", api.ErrLimit},
		{example, "", api.ErrArg}, {example, "a  b", api.ErrArg}, {example, "a@1", api.ErrArg}, {example, many, api.ErrArg},
		{example, strings.Repeat("b ", 63) + "b", api.ErrArg}, // with a, one too many
		{example, "c", api.ErrUnsat},
		{"package a 1\nneeds b *\npackage b 1\nneeds a *\n", "b", api.ErrCycle},
		{example + "package d 1\n|junk\n", "d", api.ErrRecipe},
		{example + "package d 1\n|fail 1\n", "d", api.ErrFault},
		{example + "package " + strings.Repeat("d", 60) + " 1\n", strings.Repeat("d", 60), api.ErrArg},
	} {
		n, e := p.Install(x.text, x.words, fuel)
		if n != 0 || e != x.want {
			t.Errorf("%d: %d, %d", i, n, e)
		}
	}
	for i, x := range []struct {
		text, words string
		want        api.Errno
	}{
		{"junk", "", api.ErrLine}, {example, "", api.ErrArg}, {example, "a@*", api.ErrArg}, {example, "a  a", api.ErrArg}, {example, "zz .", api.ErrArg},
		{example, "b", api.ErrNone}, {example, "a b", api.ErrNone},
	} {
		n, e := p.Remove(x.text, x.words, fuel)
		if n != 0 || e != x.want {
			t.Errorf("%d: %d, %d", i, n, e)
		}
	}
	if n, e := p.Install(example, "b", -1); n != 2 || e != api.OK {
		t.Error("all is built, and needs no fuel", e)
	}
	p.Rollback()
	p.Delete(2)
	if n, e := p.Install(example+"package d 1\n|let a = 1\n", "d", 1); n != 0 || e != api.ErrFuel {
		t.Error(e)
	}
	if p.all() != was {
		t.Error("an error changes something")
	}
	q, _ := fresh(t)
	if n, e := q.Remove(example, "a", fuel); n != 0 || e != api.ErrNone {
		t.Error(e)
	}
}

// P29.1: nil
func TestNil(t *testing.T) {
	var p *Profile
	n, e := p.Install("", "", 0)
	failed(t, n, e, api.ErrNil)
	n, e = p.Remove("", "", 0)
	failed(t, n, e, api.ErrNil)
	n, e = p.Rollback()
	failed(t, n, e, api.ErrNil)
	for _, e := range []api.Errno{p.Switch(1), p.Delete(1), p.Root("", ""), p.Unroot("")} {
		want(t, e, api.ErrNil)
	}
	_, e = p.Collect()
	want(t, e, api.ErrNil)
	_, e = p.Verify()
	want(t, e, api.ErrNil)
	_, _, e = p.Repair(0)
	want(t, e, api.ErrNil)
	_, e = p.Load(1)
	want(t, e, api.ErrNil)
	_, e = p.Tree("")
	want(t, e, api.ErrNil)
	if n, ok := p.Current(); n != 0 || ok || p.Generations() != nil || p.Objects() != nil || p.Refs("") != nil || p.Roots() != nil {
		t.Fatal("something")
	}
}

// P29.3, P29.4
func TestCalls(t *testing.T) {
	p, _ := fresh(t)
	p.Install(linked, "app", fuel)
	p.Install(linked, "tool@=2", fuel)
	p.right(t, linked)
	if !slices.Equal(p.Generations(), []int64{1, 2}) {
		t.Fatal(p.Generations())
	}
	want(t, p.Switch(3), api.ErrGen)
	want(t, p.Switch(1), api.OK)
	want(t, p.Delete(1), api.ErrCurrent)
	want(t, p.Delete(3), api.ErrGen)
	_, e := p.Load(3)
	want(t, e, api.ErrGen)
	g, _ := p.Load(2)
	app := g.Objects[slices.IndexFunc(g.Objects, func(o string) bool { return strings.HasSuffix(o, "-app-1") })]
	want(t, p.Root(".", app), api.ErrArg)
	want(t, p.Root("r", "x"), api.ErrName)
	want(t, p.Root("r", strings.Repeat("0", 32)+"-x"), api.ErrNone)
	want(t, p.Root("r", app), api.OK)
	if l := p.Roots(); len(l) != 1 || l[0] != [2]string{"r", app} {
		t.Fatal(l)
	}
	if r := p.Refs(app); len(r) < 2 {
		t.Fatal(r)
	}
	want(t, p.Delete(2), api.OK)
	if gone, e := p.Collect(); e != api.OK {
		t.Fatal(gone, e)
	}
	if n, e := p.Tree(app); e != api.OK || !files.Right(n) {
		t.Fatal(e)
	}
	want(t, p.Unroot("r"), api.OK)
	want(t, p.Unroot("r"), api.ErrNone)
	objects := p.Objects()
	gone, e := p.Collect()
	want(t, e, api.OK)
	if len(p.Objects()) != len(objects)-len(gone) {
		t.Fatal(gone)
	}
	p.right(t, linked)
}

// P29.5
func TestCopies(t *testing.T) {
	p, _ := fresh(t)
	p.Install(example, "a", fuel)
	g, _ := p.Load(1)
	g.Wants[0] = "x"
	p.Objects()[0] = "x"
	if g, _ = p.Load(1); g.Wants[0] != "a" || p.Objects()[0] == "x" {
		t.Fatal("shared")
	}
}

// script does the k-th call of a user.
func (p *Profile) script(k int) api.Errno {
	var e api.Errno
	switch k {
	case 0:
		_, e = p.Install(linked, "app", fuel)
	case 1:
		e = p.Root("keep", p.Objects()[0])
	case 2:
		_, e = p.Install(linked, "tool@=2 base", fuel)
	case 3:
		_, e = p.Rollback()
	case 4:
		_, e = p.Remove(linked, "app", fuel)
	case 5:
		e = p.Delete(1)
	case 6:
		_, e = p.Collect()
	case 7:
		e = p.Switch(2)
	case 8:
		e = p.Unroot("keep")
	case 9:
		e = p.Delete(3)
	case 10:
		_, e = p.Collect()
	case 11:
		_, e = p.Install(linked, "lib@=2", fuel)
	}
	return e
}

// P29.6 to P29.8, P29.10: wherever the power goes.
func TestPower(t *testing.T) {
	const calls = 12
	// what is to be found behind each call
	var states []string
	p, d := fresh(t)
	states = append(states, p.all())
	for k := range calls {
		want(t, p.script(k), api.OK)
		p.right(t, linked)
		states = append(states, p.all())
	}
	steps := int(d.Steps())
	for fail := range steps {
		for _, keep := range [][]int{nil, {1, 1, 1, 1, 1, 1}, {7, 40, 99, 300, 12, 60, 80, 200}, {1 << 30, 1 << 30, 1 << 30, 1 << 30}} {
			p, d := fresh(t)
			d.Fail(fail)
			done := 0
			for done < calls && p.script(done) == api.OK {
				done++
			}
			if done < calls && p.all() != states[done] {
				t.Fatal("an error changes what is there")
			}
			if !d.Off() {
				// the power went where no answer hung on it
				t.Fatal(fail, "of", steps)
			}
			d.On(keep)
			// and it goes again, amid the opening
			d.Fail(fail % 3)
			if _, e := Open(d); e != api.OK {
				want(t, e, api.ErrDisk)
				d.On(keep)
			}
			d.Fail(-1)
			p = open(t, d)
			s := p.all()
			if s != states[done] && (done == calls || s != states[done+1]) {
				t.Fatalf("fail %d: behind %d calls %s", fail, done, s)
			}
			p.right(t, linked)
			if open(t, d).all() != s {
				t.Fatal("opened again it is another one")
			}
			_, e := p.Collect()
			want(t, e, api.OK)
			p.right(t, linked)
		}
	}
}

// P29.9, P0.4: against all selections
func TestUnsat(t *testing.T) {
	r := rand.New(rand.NewSource(29))
	ranges := []string{"", "@=1", "@>=2", "@<2|=3"}
	for range 150 {
		var b strings.Builder
		for k := range 3 {
			for v := range 1 + r.Intn(3) {
				b.WriteString("package " + string(rune('a'+k)) + " " + strconv.Itoa(v+1) + "\n")
				for range r.Intn(3) {
					if j := r.Intn(3); j > k {
						b.WriteString([]string{"needs ", "conflicts "}[r.Intn(2)] + string(rune('a'+j)) + " " + []string{"*", "=1", ">=2"}[r.Intn(3)] + "\n")
					}
				}
			}
		}
		l, _, _ := catalogue.Parse(b.String())
		words := "a" + ranges[r.Intn(4)] + " " + string(rune('a'+r.Intn(3))) + ranges[r.Intn(4)]
		needs, _ := catalogue.Wants(words)
		has := false
		for m := range 1 << len(l) {
			var picks []int
			for i := range l {
				if m>>i&1 == 1 {
					picks = append(picks, i)
				}
			}
			has = has || encode.Satisfies(l, needs, picks)
		}
		p, _ := fresh(t)
		n, e := p.Install(b.String(), words, fuel)
		if has {
			made(t, n, e, 1)
			p.right(t, b.String())
		} else {
			failed(t, n, e, api.ErrUnsat)
		}
	}
}
