package env_test

import (
	"fmt"
	"math"
	"slices"
	"strings"
	"testing"

	"touchstone/api"
	"touchstone/env"
)

// doubled: a term of 2^(n+1) - 1 parts, in little memory.
func doubled(kind, n int, t api.Term) api.Term {
	for range n {
		t = of(kind, t, t)
	}
	return t
}

func doubledLevel(n int, l api.Level) api.Level {
	for range n {
		l = maxi(l, l)
	}
	return l
}

// tower: a term that is so deep, by the last Args.
func tower(kind, deep, args int, end api.Term) api.Term {
	for range deep - 1 {
		list := make([]api.Term, args)
		list[args-1] = end
		end = of(kind, list...)
	}
	return end
}

func tall(n int, l api.Level) api.Level {
	for range n {
		l = succ(l)
	}
	return l
}

// bushy: a term of 2^deep - 1 parts, each in memory of its own.
func bushy(deep int, leaf func() api.Term) api.Term {
	if deep == 1 {
		return leaf()
	}
	return app(bushy(deep-1, leaf), bushy(deep-1, leaf))
}

// ring: a term that is below itself, in each of so many Args.
func ring(kind, args int) api.Term {
	list := make([]api.Term, args)
	t := api.Term{Kind: kind, Args: list}
	for i := range list {
		list[i] = t
	}
	return t
}

func ringLevel(args int) api.Level {
	list := make([]api.Level, args)
	l := api.Level{Kind: api.LevelMax, Args: list}
	for i := range list {
		list[i] = l
	}
	return l
}

// allApart: Levels no two of which are alike.
func allApart(count int) []api.Level {
	list := make([]api.Level, count)
	for i := range list {
		list[i] = param(i)
	}
	return list
}

// great: terms that are far beyond those that come in requests, by what they are. Each can be told.
func great() map[string]api.Term {
	flat := make([]api.Term, 30000)
	for i := range flat {
		flat[i] = v(i)
	}
	levels := allApart(500)
	begun, ended := c, c
	for i := range 200 {
		begun, ended = app(begun, con("c", levels[:len(levels)-i]...)), app(con("c", levels[i:]...), ended)
	}
	return map[string]api.Term{
		"2^15 parts":                   bushy(15, func() api.Term { return con("c", succ(u)) }),
		"70,000 deep":                  tower(api.TermLam, 70000, 2, c),
		"100,000 deep":                 tower(8, 100000, 1, c),
		"30,000 Args":                  of(8, flat...),
		"40,000 Levels":                con("c", allApart(40000)...),
		"Levels that are deep":         sort(tall(70000, u)),
		"Levels of 2^15 parts, shared": con("c", doubledLevel(14, u), doubledLevel(14, w), doubledLevel(15, zero)),
		"2^16 parts, shared":           doubled(api.TermPi, 15, sort(u)),
		"lists that begin in one":      begun,
		"lists that end in one":        ended,
		"Args in one another":          of(8, of(8, flat[:20000]...), of(8, flat[3000:]...), of(8, flat[500:501]...)),
		"a great name":                 doubled(api.TermApp, 9, con(strings.Repeat("n", 1<<20))),
	}
}

// beyond: terms that are more than can be told, or have no end, by what they are.
func beyond() map[string]api.Term {
	all := map[string]api.Term{
		"doubled":                doubled(api.TermApp, 80, c),
		"doubled Levels":         sort(doubledLevel(80, u)),
		"a ring of Levels":       con("c", u, ringLevel(2)),
		"a ring of Levels, by 1": con("c", ringLevel(1), ringLevel(3)),
		"a wide ring of Levels":  sort(ringLevel(60000)),
		"a ring in a ring":       app(ring(api.TermApp, 2), of(5, ring(3, 3), c)),
		"doubled rings":          doubled(api.TermApp, 80, of(api.TermPi, ring(api.TermLam, 2), sort(ringLevel(2)))),
		"below deep ones":        tower(api.TermLam, 1000, 2, ring(api.TermApp, 1)),
	}
	for _, args := range []int{1, 2, 3, 60000} {
		all[fmt.Sprint("a ring by ", args)] = ring(args%7, args)
	}
	levels := allApart(46000)
	x := c
	for i := range 1490 {
		x = app(x, con("c", levels[:len(levels)-i]...))
	}
	all["67,430,695 Levels that begin in one list"] = x
	return all
}

// ways: declarations that have t in all places where one may be.
func ways(name string, t api.Term) []api.Decl {
	return []api.Decl{
		{Kind: api.DeclAxiom, Name: name + "T", Type: t},
		{Kind: api.DeclDef, Name: name + "V", Type: prop, Value: t},
		{Kind: api.DeclFamily, Name: name + "C", Ctors: []api.Ctor{{Name: "c", Type: c}, {Name: "d", Type: t}, {Name: "e", Type: c}}},
		{Kind: 99, Name: name + "A", Type: t, Value: t, Ctors: []api.Ctor{{Type: t}, {Type: t}}},
	}
}

// P11.1, P11.2: what is great is kept and told as it is, with no memory that is shared.
func TestGreat(t *testing.T) {
	t.Parallel()
	for what, x := range great() {
		e := env.New()
		l := ways("a", x)
		if got := e.Add(l...); got != api.OK {
			t.Fatalf("%s: error %d", what, got)
		}
		wantDecls(t, what, e, nil, l)
		given := sparseMemory(l...)
		for _, one := range l[:3] {
			first, _ := e.Find(one.Name)
			second, _ := e.Find(one.Name)
			m := memoryOf(first)
			if !m.isApart(given) || !memoryOf(second).isApart(m) {
				t.Errorf("%s, %s: what is told shares memory", what, one.Name)
			}
			scrawl([]api.Decl{first})
			wantFound(t, what, e, one)
		}
	}
}

// P11.2: what is great, and was handed in, may be changed afterwards.
func TestGreatHandedIn(t *testing.T) {
	t.Parallel()
	for what, x := range great() {
		e := env.New()
		given := ways("a", cloneTerm(x, 1))
		for i := range given {
			given[i] = clone(given[i], 1)
		}
		if got := e.Add(given...); got != api.OK {
			t.Fatalf("%s: error %d", what, got)
		}
		scrawl(given)
		wantDecls(t, what, e, nil, ways("a", x))
	}
}

// P11.2: the same, where what is written into lies in one another's memory.
func TestSharedHandedIn(t *testing.T) {
	levels, terms := allApart(600), make([]api.Term, 600)
	build := func() (x api.Decl) {
		x = api.Decl{Name: "a"}
		for i := range levels {
			levels[i] = succ(param(i))
			terms[i] = con("c", levels[i/2:i]...)
		}
		for i := range 200 {
			x.Ctors = append(x.Ctors, api.Ctor{Name: "c", Type: of(8, terms[i:3*i/2]...)})
		}
		return x
	}
	e := env.New()
	e.Add(build())
	for i := range levels {
		levels[i].Args[0].N = -5
		levels[i] = api.Level{Kind: 55}
		terms[i] = con("scrawl")
	}
	wantFound(t, "lists in one another", e, build())
}

// R1: every call ends, and none panics, whatever terms it is handed; what is more than can be told, or has no end,
// is kept by its name all the same, and stands in no other one's way.
func TestBeyond(t *testing.T) {
	t.Parallel()
	for what, x := range beyond() {
		l := ways("a", x)
		e := with(t, "first")
		if got := e.Add(l[3]); got != api.OK || e.Len() != 2 || !e.Own("aA") {
			t.Fatalf("%s: error %d, Len %d", what, got, e.Len())
		}
		if e.Add(l[3]) != api.ErrTaken || e.Add(l[0], axiom("1")) != api.ErrName || e.Add(l[1], l[1]) != api.ErrTaken || e.Len() != 2 {
			t.Errorf("%s: what may not be added", what)
		}
		o := e.Over()
		if got := o.Add(l[:3]...); got != api.OK || o.Len() != 3 || o.Own("aA") || e.Own("aT") {
			t.Fatalf("%s: over it: error %d, Len %d", what, got, o.Len())
		}
		add(t, o, "last")
		wantFound(t, what, o, axiom("first"))
		wantFound(t, what, o, axiom("last"))
		if k := o.Copy(); k.Len() != 4 || !k.Own("aC") || len(k.All()) != 6 {
			t.Errorf("%s: a copy", what)
		}
	}
}

// What is more than can be told is told as it is too, in new memory, though lists in it share some.
func TestBeyondIsTold(t *testing.T) {
	t.Parallel()
	for what, x := range beyond() {
		e := env.New()
		want := ways("a", x)[3]
		e.Add(want)
		wantFound(t, what, e, want)
		first, _ := e.Find("aA")
		m := sparseMemory(first)
		if !m.isElsewhere(sparseMemory(want)) {
			t.Errorf("%s: what is told lies in what was handed in", what)
		}
		second, _ := e.Find("aA")
		if !m.isElsewhere(sparseMemory(second)) {
			t.Errorf("%s: what is told lies in what was told before", what)
		}
	}
}

// P11.2: many declarations in one call that share much memory.
func TestManyThatShare(t *testing.T) {
	t.Parallel()
	shared := doubled(api.TermApp, 9, con("c", doubledLevel(3, u)))
	ctors := slices.Repeat([]api.Ctor{{Name: "c", Type: shared}}, 200)
	var l []api.Decl
	for i := range 2000 {
		l = append(l, api.Decl{Kind: api.DeclFamily, Name: fmt.Sprint("a", i), Type: shared, Ctors: ctors[:i%200]})
	}
	e := env.New()
	if got := e.Add(l...); got != api.OK || e.Len() != 2000 {
		t.Fatalf("error %d, Len %d", got, e.Len())
	}
	for _, i := range []int{0, 1, 77, 1999} {
		got, ok := e.Find(l[i].Name)
		if !ok || !alike(got, l[i]) {
			t.Errorf("%s: %v", show(got), ok)
		}
	}
	if all := e.All(); len(all) != 2000 || !alike(all[1234], l[1234]) {
		t.Errorf("All: %d", len(all))
	}
}

// P11.1: declarations of every Kind, also of kinds that there are not, and whatever numbers.
func TestKinds(t *testing.T) {
	e := env.New()
	var l []api.Decl
	for i, n := range []int{math.MinInt, -1, 0, 1, 2, 3, 4, 5, 6, 7, 1 << 31, math.MaxInt} {
		for j, m := range []int{math.MinInt, -1, 0, 4, math.MaxInt} {
			x := api.Decl{Kind: n, Params: m, Count: n - m, Name: fmt.Sprintf("k%d.j%d", i, j), Family: "k"}
			x.Type = api.Term{Kind: n, N: m, Levels: []api.Level{{Kind: m, N: n}}, Args: []api.Term{{Kind: m, N: n, Name: "1"}}}
			x.Value, x.Ctors = app(x.Type, x.Type), []api.Ctor{{Type: x.Type}, {Name: "k", Type: x.Value}}
			l = append(l, x)
		}
	}
	if got := e.Add(l...); got != api.OK {
		t.Fatalf("error %d", got)
	}
	wantDecls(t, "kinds", e, nil, l)
}

// R3: nil and an empty list are one.
func TestEmptyLists(t *testing.T) {
	none, empty := api.Decl{Name: "a"}, api.Decl{Name: "a", Ctors: []api.Ctor{}}
	empty.Type = api.Term{Levels: []api.Level{}, Args: []api.Term{}}
	for _, x := range []api.Decl{none, empty} {
		e := env.New()
		e.Add(x)
		wantDecls(t, "empty lists", e, nil, []api.Decl{none})
		got, _ := e.Find("a")
		if len(got.Ctors) != 0 || len(got.Type.Args) != 0 || len(got.Type.Levels) != 0 || got.Value.Args != nil {
			t.Error("an empty list is told as another one")
		}
	}
}
