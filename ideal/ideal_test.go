package ideal

import (
	"math"
	"math/rand"
	"slices"
	"strconv"
	"strings"
	"testing"

	"tithebarn/api"
	"tithebarn/catalogue"
	"tithebarn/disk"
	"tithebarn/encode"
	"tithebarn/profile"
)

const text = "package a 1\npackage b 1\npackage b 2\n"

const linked = "package a 1\nneeds b *\npackage a 2\nneeds b =2\nneeds c *\npackage b 1\npackage b 2\nconflicts d *\npackage c 1\npackage d 1\nneeds c *\n"

func install(text, words string) Call { return Call{Kind: Install, Text: text, Words: words} }

func remove(text, words string) Call { return Call{Kind: Remove, Text: text, Words: words} }

func ok(n int64, picks ...string) Answer { return Answer{N: n, Picks: picks} }

func fails(e api.Errno) Answer { return Answer{E: e} }

// allow asks for an answer that has to be allowed.
func allow(t *testing.T, s State, c Call, a Answer) State {
	t.Helper()
	next, allowed := Allow(s, c, a)
	if !allowed {
		t.Fatalf("%v %v is not allowed", c, a)
	}
	return next
}

// bar asks for an answer that has not to be allowed.
func bar(t *testing.T, s State, c Call, a Answer) {
	t.Helper()
	if next, allowed := Allow(s, c, a); allowed || !Same(next, s) {
		t.Fatalf("%v %v is allowed", c, a)
	}
}

// two are the states of the document's example.
func two(t *testing.T) State {
	t.Helper()
	s := allow(t, State{}, install(text, "b"), ok(1, "b 2"))
	return allow(t, s, install(text, "a"), ok(2, "a 1", "b 1"))
}

// The document's examples, P30.4
func TestExamples(t *testing.T) {
	s := allow(t, State{}, install(text, "b"), ok(1, "b 2"))
	if !Same(s, State{[]Gen{{1, []string{"b"}, []string{"b 2"}}}, 1}) {
		t.Fatal(s)
	}
	s = allow(t, s, install(text, "a"), ok(2, "a 1", "b 1"))
	if !Same(s, State{[]Gen{{1, []string{"b"}, []string{"b 2"}}, {2, []string{"b", "a"}, []string{"a 1", "b 1"}}}, 2}) {
		t.Fatal(s)
	}
	s = allow(t, s, Call{Kind: Rollback}, ok(1))
	if s.Current != 1 || len(s.Gens) != 2 {
		t.Fatal(s)
	}
	if next := allow(t, s, install(text, "c"), fails(api.ErrUnsat)); !Same(next, s) {
		t.Fatal(next)
	}
	bar(t, s, Call{Kind: Delete, N: 1}, ok(0))
	allow(t, s, Call{Kind: Delete, N: 1}, fails(api.ErrCurrent))
}

// P30.1, P30.2
func TestWants(t *testing.T) {
	if Wants(State{}) != nil || Next(State{}) != 1 {
		t.Error("the empty one")
	}
	s := two(t)
	if !slices.Equal(Wants(s), []string{"b", "a"}) || Next(s) != 3 {
		t.Error(Wants(s))
	}
	s.Current = 1
	if !slices.Equal(Wants(s), []string{"b"}) {
		t.Error(Wants(s))
	}
	s.Current = 0
	if Wants(s) != nil {
		t.Error(Wants(s))
	}
	s.Current = 7
	if Wants(s) != nil || Next(State{Gens: []Gen{{N: 4}, {N: 9}}}) != 10 {
		t.Error("by hand")
	}
}

// P30.3
func TestCertain(t *testing.T) {
	s := State{[]Gen{{1, []string{"x@>1", "y"}, nil}, {5, []string{"a@=1", "b", "b@*"}, nil}}, 5}
	many := strings.TrimSpace(strings.Repeat("a ", 64))
	for i, x := range []struct {
		s     State
		c     Call
		wants string
		want  api.Errno
	}{
		{s, install("junk", ""), "", api.ErrLine},
		{s, install("package a 1\npackage a 1", ""), "", api.ErrTwice},
		{s, install(strings.Repeat("#", api.MaxText+1), ""), "", api.ErrLimit},
		{s, install(text, ""), "", api.ErrArg},
		{s, install(text, "a  b"), "", api.ErrArg},
		{s, install(text, "a@1"), "", api.ErrArg},
		{s, install(text, "a"), "b b@* a", api.OK},
		{s, install(text, "b@=2 b@>=1"), "a@=1 b@=2 b@>=1", api.OK},
		{s, install(text, "c"), "a@=1 b b@* c", api.ErrUnsat},
		{s, install(text, "b@=3"), "a@=1 b@=3", api.ErrUnsat},
		{s, install(text, many), "b b@* " + many, api.ErrArg},
		{State{}, install(text, "a"), "a", api.OK},
		{State{[]Gen{{1, []string{"junk junk@"}, nil}}, 1}, install(text, "a"), "junk junk@ a", api.ErrArg},
		{s, remove("junk", ""), "", api.ErrLine},
		{s, remove(text, ""), "", api.ErrArg},
		{s, remove(text, "a@*"), "", api.ErrArg},
		{s, remove(text, "a  b"), "", api.ErrArg},
		{s, remove(text, "x"), "", api.ErrNone},
		{s, remove(text, "a x"), "", api.ErrNone},
		{s, remove(text, "b"), "a@=1", api.OK},
		{s, remove(text, "a a"), "b b@*", api.OK},
		{s, remove("", "b a"), "", api.OK},
		{s, remove("", "b"), "a@=1", api.ErrUnsat},
		{State{}, remove(text, "a"), "", api.ErrNone},
		{s, Call{Kind: Rollback}, "", api.OK},
		{State{}, Call{Kind: Rollback}, "", api.ErrGen},
		{State{s.Gens, 1}, Call{Kind: Rollback}, "", api.ErrGen},
		{State{s.Gens, 0}, Call{Kind: Rollback}, "", api.ErrGen},
		{s, Call{Kind: Switch, N: 1}, "", api.OK},
		{s, Call{Kind: Switch, N: 5}, "", api.OK},
		{s, Call{Kind: Switch, N: 2}, "", api.ErrGen},
		{s, Call{Kind: Switch, N: math.MinInt64}, "", api.ErrGen},
		{s, Call{Kind: Delete, N: 1}, "", api.OK},
		{s, Call{Kind: Delete, N: 5}, "", api.ErrCurrent},
		{s, Call{Kind: Delete, N: 4}, "", api.ErrGen},
		{s, Call{}, "", api.ErrArg},
		{s, Call{Kind: 6}, "", api.ErrArg},
		{s, Call{Kind: 255, Text: text, Words: "a"}, "", api.ErrArg},
	} {
		w, e := Certain(x.s, x.c)
		if strings.Join(w, " ") != x.wants || e != x.want {
			t.Errorf("%d: %q, %d", i, w, e)
		}
	}
	var b strings.Builder
	for i := range 1500 {
		b.WriteString("package a " + strconv.Itoa(i) + "\n")
	}
	if _, e := Certain(State{}, install(b.String(), "a")); e != api.ErrLarge {
		t.Error(e)
	}
}

// P30.4: what may not be answered
func TestAllow(t *testing.T) {
	s := two(t)
	c := install(text, "b@=2")
	for _, a := range []Answer{ok(2, "a 1", "b 2"), ok(4, "a 1", "b 2"), ok(0, "a 1", "b 2"), ok(3, "b 2", "a 1"), ok(3, "a 1", "b 1"), ok(3, "b 2"), ok(3), ok(3, "a 1", "b 2", "b 2"), ok(3, "a 1", "b 1", "b 2"), ok(3, "a 1", "b 3"), ok(3, "a 1 ", "b 2"), ok(3, "a 1", "b 2", ""), {E: api.ErrUnsat}, {E: api.ErrNil}, {E: api.ErrLine}, {E: api.ErrTwice}, {E: api.ErrLarge}, {E: api.ErrGen}, {E: api.ErrCurrent}} {
		bar(t, s, c, a)
	}
	next := allow(t, s, c, ok(3, "a 1", "b 2"))
	if next.Current != 3 || len(next.Gens) != 3 || !slices.Equal(next.Gens[2].Wants, []string{"a", "b@=2"}) {
		t.Fatal(next)
	}
	for _, e := range []api.Errno{api.ErrArg, api.ErrLimit, api.ErrState, api.ErrNone, api.ErrDisk, api.ErrFull, api.ErrJournal, api.ErrTree, api.ErrHash, api.ErrRecipe, api.ErrFuel, api.ErrFault, api.ErrCycle, api.ErrOverflow, 77, -1} {
		for _, c := range []Call{c, remove(text, "a"), {Kind: Rollback}, {Kind: Switch, N: 1}, {Kind: Delete, N: 1}} {
			if next := allow(t, s, c, Answer{e, 9, []string{"x"}}); !Same(next, s) {
				t.Fatal(next)
			}
		}
		// where an error is certain, no other one
		bar(t, s, Call{Kind: Switch, N: 9}, fails(e))
		bar(t, s, install(text, "c"), fails(e))
	}
	// not all is asked for; it does not satisfy
	bar(t, State{}, install(text, "a"), ok(1, "a 1", "b 1"))
	bar(t, State{}, install(linked, "d"), ok(1, "d 1"))
	bar(t, State{}, install(linked, "a d"), ok(1, "a 1", "b 2", "c 1", "d 1"))
	bar(t, State{}, install(linked, "a d"), ok(1, "a 1", "b 1", "d 1"))
	allow(t, State{}, install(linked, "a d"), ok(1, "a 1", "b 1", "c 1", "d 1"))
	// nothing is wanted: nothing is picked
	bar(t, s, remove(text, "a b"), ok(3, "a 1"))
	next = allow(t, s, remove(text, "a b"), ok(3))
	if next.Current != 3 || len(next.Gens[2].Wants) != 0 {
		t.Fatal(next)
	}
	for _, c := range []Call{{Kind: Rollback}, {Kind: Switch, N: 1}} {
		if next := allow(t, s, c, ok(1)); next.Current != 1 || len(next.Gens) != 2 {
			t.Fatal(next)
		}
	}
	bar(t, s, Call{Kind: Rollback}, ok(2))
	bar(t, s, Call{Kind: Rollback}, ok(0))
	bar(t, s, Call{Kind: Switch, N: 9}, ok(0))
	bar(t, State{}, Call{Kind: Rollback}, ok(0))
	if next := allow(t, s, Call{Kind: Delete, N: 1}, ok(0)); next.Current != 2 || len(next.Gens) != 1 || next.Gens[0].N != 2 {
		t.Fatal(next)
	}
	allow(t, s, Call{Kind: 99}, fails(api.ErrArg))
	bar(t, s, Call{Kind: 99}, ok(0))
	// the greatest number
	last := State{Gens: []Gen{{N: 1<<40 - 1}}}
	allow(t, last, install(text, "a"), ok(1<<40, "a 1"))
	last.Gens[0].N++
	bar(t, last, install(text, "a"), ok(1<<40+1, "a 1"))
	allow(t, last, install(text, "a"), fails(api.ErrOverflow))
	last.Gens[0].N = math.MaxInt64
	bar(t, last, install(text, "a"), ok(math.MinInt64, "a 1"))
}

// P30.5
func TestSame(t *testing.T) {
	s := two(t)
	if !Same(s, two(t)) || !Same(State{}, State{Gens: []Gen{}}) || !Same(State{Gens: []Gen{{Wants: []string{}}}}, State{Gens: []Gen{{}}}) {
		t.Error("not the same")
	}
	for i, change := range []func(x *State){
		func(x *State) { x.Current = 1 },
		func(x *State) { x.Gens = x.Gens[:1] },
		func(x *State) { x.Gens[1].N = 3 },
		func(x *State) { x.Gens[0].Wants = nil },
		func(x *State) { x.Gens[1].Picks[1] = "b 2" },
	} {
		x := two(t)
		if change(&x); Same(s, x) || Same(x, s) {
			t.Error(i)
		}
	}
}

// P30.6
func TestReadOnly(t *testing.T) {
	s, was := two(t), two(t)
	gens := make([]Gen, 2, 5)
	copy(gens, s.Gens)
	s.Gens = gens
	picks := []string{"a 1", "b 2"}
	next := allow(t, s, install(text, "b@=2"), ok(3, picks...))
	picks[0] = "x"
	if gens[:3][2].N != 0 || next.Gens[2].Picks[0] != "a 1" {
		t.Fatal("kept, or changed")
	}
	for _, x := range []State{next, allow(t, s, Call{Kind: Delete, N: 1}, ok(0)), allow(t, s, Call{Kind: Rollback}, ok(1)), allow(t, s, Call{Kind: Rollback}, fails(api.ErrDisk))} {
		x.Gens[0].N = 77
	}
	w, _ := Certain(s, install(text, "a"))
	w[0] = "x"
	Wants(s)[0] = "x"
	if !Same(s, was) {
		t.Fatal("changed", s)
	}
}

// may: may a state be, by the document's words?
func may(s State) bool {
	current := s.Current == 0
	for i, g := range s.Gens {
		if g.N < 1 || g.N > 1<<40 || i > 0 && s.Gens[i-1].N >= g.N {
			return false
		}
		current = current || g.N == s.Current
	}
	return current
}

// gens are generations of these numbers.
func gens(numbers ...int64) []Gen {
	var l []Gen
	for _, n := range numbers {
		l = append(l, Gen{n, []string{"b"}, []string{"b 2"}})
	}
	return l
}

// P30.4: a state that may not be stays, whatever is asked for and answered.
func TestStateThatMayNotBe(t *testing.T) {
	calls := []Call{{}, {Kind: 9}, {Kind: Rollback}, install("junk", ""), install(text, "a"), install(text, "c"), remove(text, "b"), remove(text, "x")}
	for _, n := range []int64{math.MinInt64, -1, 0, 1, 2, 3, 1<<40 + 1, math.MaxInt64} {
		calls = append(calls, Call{Kind: Switch, N: n}, Call{Kind: Delete, N: n})
	}
	var answers []Answer
	for _, n := range []int64{math.MinInt64, -1, 0, 1, 2, 3, 4, 1<<40 + 1} {
		answers = append(answers, ok(n), ok(n, "b 2"), ok(n, "a 1"), ok(n, "a 1", "b 2"))
	}
	for e := api.Errno(-1); e < 300; e++ {
		answers = append(answers, fails(e))
	}
	for _, s := range []State{
		{nil, -1}, {nil, 1}, {nil, math.MinInt64}, {[]Gen{}, math.MaxInt64},
		{gens(1), 2}, {gens(1), -1}, {gens(1, 3), 2}, {gens(1, 3), math.MaxInt64},
		{gens(2, 1), 0}, {gens(2, 1), 1}, {gens(2, 1), 2}, {gens(1, 3, 2), 1},
		{gens(2, 2), 0}, {gens(2, 2), 2}, {gens(1, 2, 2), 1}, {gens(1, 1, 2), 2},
		{gens(0), 0}, {gens(0, 1), 1}, {gens(-1, 1), 1}, {gens(-1), -1}, {gens(math.MinInt64), 0},
		{gens(1<<40 + 1), 0}, {gens(1, 1<<40+1), 1}, {gens(1<<40 + 1), 1<<40 + 1}, {gens(math.MaxInt64), math.MaxInt64},
	} {
		if may(s) {
			t.Fatal("this one may be", s)
		}
		for _, c := range calls {
			_, e := Certain(s, c)
			bar(t, s, c, fails(e))
			for _, a := range answers {
				bar(t, s, c, a)
			}
		}
		next, _ := Allow(s, calls[0], answers[0])
		for i := range next.Gens {
			if next.Gens[i].N++; next.Gens[i].N == s.Gens[i].N {
				t.Fatal("no new memory")
			}
		}
	}
	// the edges of those that may be
	for _, s := range []State{{nil, 0}, {gens(1), 0}, {gens(1), 1}, {gens(1 << 40), 1 << 40}, {gens(1, 1<<40), 1}, {gens(1, 2, 1<<40), 2}} {
		if !may(s) {
			t.Fatal("this one may not be", s)
		}
		allow(t, s, Call{Kind: 9}, fails(api.ErrArg))
		allow(t, s, Call{Kind: Switch, N: 7}, fails(api.ErrGen))
		allow(t, s, install(text, "a"), fails(api.ErrFull))
	}
}

// P30.4, P30.7: of all states of three small numbers just those that may be allow anything, and what they allow may be.
func TestStates(t *testing.T) {
	numbers := []int64{-1, 0, 1, 2, 1 << 40, 1<<40 + 1}
	var rows [][]Gen
	rows = append(rows, nil)
	for _, a := range numbers {
		rows = append(rows, gens(a))
		for _, b := range numbers {
			rows = append(rows, gens(a, b))
			for _, c := range numbers {
				rows = append(rows, gens(a, b, c))
			}
		}
	}
	for _, row := range rows {
		for _, current := range numbers {
			s := State{row, current}
			if _, allowed := Allow(s, Call{}, fails(api.ErrArg)); allowed != may(s) {
				t.Fatal(s)
			}
			for _, n := range numbers {
				for _, c := range []Call{install(text, "b"), {Kind: Rollback}, {Kind: Switch, N: n}, {Kind: Delete, N: n}} {
					for _, a := range []Answer{ok(n, "b 2"), ok(Next(s), "b 1"), fails(api.ErrDisk)} {
						if next, allowed := Allow(s, c, a); allowed && !may(next) || !allowed && !Same(next, s) {
							t.Fatal(s, c, a, next)
						}
					}
				}
			}
		}
	}
}

// do does a call of a profile, and tells its answer.
func do(p *profile.Profile, c Call, fuel int) Answer {
	a := Answer{}
	switch c.Kind {
	case Install:
		a.N, a.E = p.Install(c.Text, c.Words, fuel)
	case Remove:
		a.N, a.E = p.Remove(c.Text, c.Words, fuel)
	case Rollback:
		a.N, a.E = p.Rollback()
	case Switch:
		a.E = p.Switch(c.N)
	case Delete:
		a.E = p.Delete(c.N)
	}
	if g, e := p.Load(a.N); e == api.OK {
		a.Picks = g.Picks
	}
	return a
}

// read tells a profile's state.
func read(t *testing.T, p *profile.Profile) State {
	t.Helper()
	s := State{}
	for _, n := range p.Generations() {
		g, e := p.Load(n)
		if e != api.OK {
			t.Fatal(e)
		}
		s.Gens = append(s.Gens, Gen{n, g.Wants, g.Picks})
		for rest := g.Objects; len(rest) > 0; rest = rest[1:] {
			if _, e := p.Tree(rest[0]); e != api.OK {
				t.Fatal(rest[0], e)
			}
			rest = append(rest[:len(rest):len(rest)], p.Refs(rest[0])...)
		}
	}
	s.Current, _ = p.Current()
	return s
}

// P0.2, P0.3: scripts of any calls, amid which the power goes, again and again.
func TestPower(t *testing.T) {
	told := strings.ReplaceAll(linked, "package b", "|for i = 0 to count() - 1\n|file str(i) = input(i)\n|end\npackage b")
	words := []string{"a", "b", "c", "d", "a@=2", "b@=1", "d a", "c b@<2"}
	kinds := []uint8{Install, Install, Install, Remove, Rollback, Switch, Delete}
	crashes := 0
	for seed := range int64(60) {
		r := rand.New(rand.NewSource(seed))
		d := disk.New(1 << 20)
		p, _ := profile.Open(d)
		s := State{}
		for range 40 {
			c := Call{Kind: kinds[r.Intn(len(kinds))], Text: told, Words: words[r.Intn(len(words))], N: int64(r.Intn(9))}
			d.Fail(r.Intn(25))
			var a Answer
			if r.Intn(6) == 0 {
				if _, e := p.Collect(); e != api.OK && e != api.ErrDisk {
					t.Fatal(e)
				}
				c.Kind, c.N, a.E = Switch, 0, api.ErrGen // which changes nothing
			} else {
				a = do(p, c, 1000)
			}
			for d.Off() {
				crashes++
				var keep []int
				for range 12 {
					keep = append(keep, r.Intn(300)*r.Intn(2))
				}
				d.On(keep)
				d.Fail(r.Intn(4) - 1)
				if q, e := profile.Open(d); e == api.OK {
					p = q
				} else if e != api.ErrDisk {
					t.Fatal(e)
				}
			}
			d.Fail(-1)
			now := read(t, p)
			if a.E != api.OK && !Same(now, s) {
				// the call under way was done as a whole: then it may have been answered so
				n, _ := p.Current()
				g, _ := p.Load(n)
				a = Answer{N: n, Picks: g.Picks}
			}
			next, allowed := Allow(s, c, a)
			if !allowed || !Same(next, now) {
				t.Fatalf("seed %d: %v %v: %v, then %v", seed, c, a, s, now)
			}
			s = now
		}
	}
	if crashes < 200 {
		t.Fatal(crashes)
	}
}

// P30.7, P0.1: what a profile answers is allowed, and the state is the profile's.
func TestFollows(t *testing.T) {
	words := []string{"a", "b", "c", "d", "a@=2", "b@=1", "b@>=2", "d a", "c b@<2", "e", "a@", ""}
	kinds := []uint8{Install, Install, Install, Remove, Remove, Rollback, Switch, Delete}
	for seed := range int64(40) {
		r := rand.New(rand.NewSource(seed))
		d := disk.New(1 << 20)
		p, _ := profile.Open(d)
		s := State{}
		for range 40 {
			c := Call{Kind: kinds[r.Intn(len(kinds))], Text: linked, Words: words[r.Intn(len(words))], N: int64(r.Intn(8))}
			if r.Intn(12) == 0 {
				c.Text = "junk"
			}
			a := do(p, c, 100)
			next := allow(t, s, c, a)
			if a.E != api.OK && !Same(next, s) || !may(next) {
				t.Fatal("a failure changes it")
			}
			if a.E == api.OK && c.Kind == Install && s.Current > 0 && s.greatest(next.Current) == s.Current {
				if back := allow(t, next, Call{Kind: Rollback}, ok(s.Current)); back.Current != s.Current {
					t.Fatal("rolled back")
				}
			}
			s = next
			var gens []Gen
			l, _, _ := catalogue.Parse(linked)
			for _, n := range p.Generations() {
				g, _ := p.Load(n)
				gens = append(gens, Gen{n, g.Wants, g.Picks})
				if len(g.Wants) > 0 {
					var places []int
					for _, pick := range g.Picks {
						places = append(places, slices.IndexFunc(l, func(v api.Variant) bool { return v.Name+" "+v.Version == pick }))
					}
					if needs, _ := catalogue.Wants(strings.Join(g.Wants, " ")); !encode.Satisfies(l, needs, places) {
						t.Fatal(g)
					}
				}
			}
			at, _ := p.Current()
			if !Same(s, State{gens, at}) {
				t.Fatal(s, gens, at)
			}
		}
	}
}
