package env_test

import (
	"fmt"
	"slices"
	"testing"

	"touchstone/api"
	"touchstone/env"
)

var (
	zero = api.Level{}
	u, w = param(0), param(1)
	prop = sort(zero)
	c, d = con("c"), con("d")
)

func param(n int) api.Level { return api.Level{Kind: api.LevelParam, N: n} }

func lev(kind int, args ...api.Level) api.Level { return api.Level{Kind: kind, Args: args} }

func succ(l api.Level) api.Level { return lev(api.LevelSucc, l) }

func maxi(a, b api.Level) api.Level { return lev(api.LevelMax, a, b) }

func of(kind int, args ...api.Term) api.Term { return api.Term{Kind: kind, Args: args} }

func v(n int) api.Term { return api.Term{Kind: api.TermVar, N: n} }

func sort(l api.Level) api.Term { return api.Term{Kind: api.TermSort, Levels: []api.Level{l}} }

func con(name string, levels ...api.Level) api.Term {
	return api.Term{Kind: api.TermConst, Name: name, Levels: levels}
}

func app(f, a api.Term) api.Term { return of(api.TermApp, f, a) }

func pi(a, b api.Term) api.Term { return of(api.TermPi, a, b) }

func lam(a, b api.Term) api.Term { return of(api.TermLam, a, b) }

func let(a, b, c api.Term) api.Term { return of(api.TermLet, a, b, c) }

// axiom: a declaration of that name, with a Type that has it too: so each has another one.
func axiom(name string) api.Decl {
	return api.Decl{Kind: api.DeclAxiom, Params: 1, Name: name, Type: pi(sort(u), con(name, succ(u)))}
}

func axioms(names ...string) (l []api.Decl) {
	for _, name := range names {
		l = append(l, axiom(name))
	}
	return l
}

// with: a new Env that has axioms of these names.
func with(t *testing.T, names ...string) *env.Env {
	t.Helper()
	e := env.New()
	add(t, e, names...)
	return e
}

// add: axioms of these names come to e.
func add(t *testing.T, e *env.Env, names ...string) {
	t.Helper()
	if got := e.Add(axioms(names...)...); got != api.OK {
		t.Fatalf("Add of %q: error %d", names, got)
	}
}

// wantEnv: e has axioms of these names beneath, and as its own, and no other ones.
func wantEnv(t *testing.T, what string, e *env.Env, beneath, own []string) {
	t.Helper()
	all := slices.Concat(beneath, own)
	wantDecls(t, what, e, axioms(beneath...), axioms(own...))
	for _, none := range []string{"", "x", "a.b", "1", ".", "a\x00", "c", "d", "A"} {
		if slices.Contains(all, none) {
			continue
		}
		if got, ok := e.Find(none); ok || !alike(got, api.Decl{}) || e.Own(none) {
			t.Errorf("%s: Find(%q) %v, Own %v", what, none, ok, e.Own(none))
		}
	}
}

// wantDecls: e has these beneath, and as its own.
func wantDecls(t *testing.T, what string, e *env.Env, beneath, own []api.Decl) {
	t.Helper()
	if e.Len() != len(own) {
		t.Errorf("%s: Len %d; want %d", what, e.Len(), len(own))
	}
	all := slices.Concat(beneath, own)
	if got := e.All(); !slices.EqualFunc(got, all, alike) {
		t.Errorf("%s: All: %q; want %q", what, namesOf(got), namesOf(all))
	}
	for i, want := range all {
		if got, ok := e.Find(want.Name); !ok || !alike(got, want) {
			t.Errorf("%s: Find(%q): %q, %v", what, want.Name, got.Name, ok)
		}
		if got := e.Own(want.Name); got != (i >= len(beneath)) {
			t.Errorf("%s: Own(%q): %v", what, want.Name, got)
		}
	}
}

func namesOf(l []api.Decl) (names []string) {
	for _, x := range l[:min(len(l), 30)] {
		names = append(names, x.Name)
	}
	return names
}

// P11.1: an empty one, and what is its own.
func TestNew(t *testing.T) {
	e := env.New()
	wantEnv(t, "New", e, nil, nil)
	add(t, e, "a")
	wantEnv(t, "with one", e, nil, []string{"a"})
	add(t, e, "nat", "nat.rec")
	wantEnv(t, "with three", e, nil, []string{"a", "nat", "nat.rec"})
	wantEnv(t, "another New", env.New(), nil, nil)
}

// P11.1: Find and Own of a name of its own, beneath, two beneath, and of none.
func TestFind(t *testing.T) {
	e := with(t, "a", "b")
	o := e.Over()
	add(t, o, "p", "q")
	top := o.Over()
	wantEnv(t, "two beneath", top, []string{"a", "b", "p", "q"}, nil)
	add(t, top, "y", "z")
	wantEnv(t, "with its own", top, []string{"a", "b", "p", "q"}, []string{"y", "z"})
	wantEnv(t, "the middle one", o, []string{"a", "b"}, []string{"p", "q"})
	wantEnv(t, "the lowest one", e, nil, []string{"a", "b"})
}

// P11.1: what is added to one is not seen in those over it, nor the other way round.
func TestOver(t *testing.T) {
	e := with(t, "a")
	first := e.Over()
	add(t, e, "later")
	second := e.Over()
	wantEnv(t, "over, ahead of an Add", first, []string{"a"}, nil)
	wantEnv(t, "over, behind it", second, []string{"a", "later"}, nil)
	add(t, first, "f", "later") // there it is free
	add(t, second, "s", "f")
	add(t, e, "s", "f", "last")
	wantEnv(t, "the first over it", first, []string{"a"}, []string{"f", "later"})
	wantEnv(t, "the second over it", second, []string{"a", "later"}, []string{"s", "f"})
	wantEnv(t, "the one beneath", e, nil, []string{"a", "later", "s", "f", "last"})
	third := e.Over()
	wantEnv(t, "a third over it", third, []string{"a", "later", "s", "f", "last"}, nil)
	wantEnv(t, "over an empty one", env.New().Over(), nil, nil)
	empty := env.New().Over().Over().Over()
	add(t, empty, "a")
	wantEnv(t, "over empty ones", empty.Over(), []string{"a"}, nil)
	wantEnv(t, "an empty one between", e.Over().Over(), []string{"a", "later", "s", "f", "last"}, nil)
}

// P11.1: what is added to the lowest of three is not seen in the middle one, nor above.
func TestOverThree(t *testing.T) {
	e := with(t, "a")
	o := e.Over()
	top := o.Over()
	add(t, e, "e")
	add(t, o, "o")
	wantEnv(t, "the top", top, []string{"a"}, nil)
	wantEnv(t, "the middle", o, []string{"a"}, []string{"o"})
	add(t, top, "e", "o")
	wantEnv(t, "the top with its own", top, []string{"a"}, []string{"e", "o"})
	wantEnv(t, "the middle, then", o, []string{"a"}, []string{"o"})
	wantEnv(t, "the lowest, then", e, nil, []string{"a", "e"})
}

// P11.1: one by one, several at once, and none.
func TestAdd(t *testing.T) {
	e := env.New()
	if got := e.Add(); got != api.OK {
		t.Errorf("Add of nothing: error %d", got)
	}
	if got := e.Add([]api.Decl{}...); got != api.OK {
		t.Errorf("Add of an empty list: error %d", got)
	}
	wantEnv(t, "behind Add of nothing", e, nil, nil)
	var own []string
	for i := range 70 {
		var more []string
		for j := range i % 6 {
			more = append(more, fmt.Sprintf("n%d.m%d", i, 5-j)) // not in the order of names
		}
		add(t, e, more...)
		own = append(own, more...)
		wantEnv(t, fmt.Sprint("behind ", i), e, nil, own)
	}
	o := e.Over()
	var over []string
	for i := range 40 {
		over = append(over, fmt.Sprintf("z%d", 50-i))
		add(t, o, over[i])
	}
	wantEnv(t, "over it", o, own, over)
	wantEnv(t, "beneath it", e, nil, own)
}

// P11.1: another one, the same, which goes on by itself.
func TestCopy(t *testing.T) {
	for _, beneath := range [][]string{nil, {"b"}, {"b", "e"}} {
		e := with(t, beneath...).Over()
		add(t, e, "a")
		first, second := e.Copy(), e.Copy()
		add(t, e, "x", "y")
		add(t, first, "y", "z")
		third := first.Copy()
		add(t, third, "x")
		wantEnv(t, "the first one", e, beneath, []string{"a", "x", "y"})
		wantEnv(t, "its copy", first, beneath, []string{"a", "y", "z"})
		wantEnv(t, "its other copy", second, beneath, []string{"a"})
		wantEnv(t, "a copy of its copy", third, beneath, []string{"a", "y", "z", "x"})
		if got := second.Add(axiom("a")); got != api.ErrTaken {
			t.Errorf("Add to a copy of what is there: error %d", got)
		}
	}
	empty := env.New().Copy()
	wantEnv(t, "a copy of an empty one", empty, nil, nil)
	add(t, empty, "a")
	wantEnv(t, "what is added to it", empty, nil, []string{"a"})
}

// P11.1: a copy and those over it, and a copy of one that lies beneath.
func TestCopyOver(t *testing.T) {
	e := with(t, "a")
	o := e.Over()
	add(t, o, "o")
	below, above := e.Copy(), o.Copy().Over()
	add(t, below, "below", "o")
	add(t, o, "p")
	add(t, above, "p", "below")
	wantEnv(t, "a copy of what lies beneath", below, nil, []string{"a", "below", "o"})
	wantEnv(t, "over a copy", above, []string{"a", "o"}, []string{"p", "below"})
	wantEnv(t, "the one over it", o, []string{"a"}, []string{"o", "p"})
	wantEnv(t, "the one beneath", e, nil, []string{"a"})
}

// P11.1: of a nil Env.
func TestNil(t *testing.T) {
	var e *env.Env
	for range 2 {
		if got, ok := e.Find("a"); ok || !alike(got, api.Decl{}) {
			t.Error("Find")
		}
		if e.Own("a") || e.Own("") {
			t.Error("Own")
		}
		for _, l := range [][]api.Decl{nil, axioms("a"), axioms("1"), axioms("a", "a"), axioms("")} {
			if got := e.Add(l...); got != api.ErrArg {
				t.Errorf("Add of %q: error %d", namesOf(l), got)
			}
		}
		if e.Len() != 0 || len(e.All()) != 0 || e.Over() != nil || e.Copy() != nil {
			t.Errorf("Len %d, All %v, Over %v, Copy %v", e.Len(), e.All(), e.Over(), e.Copy())
		}
	}
}

// P11.1: a zero one is like New.
func TestZero(t *testing.T) {
	wantEnv(t, "zero", &env.Env{}, nil, nil)
	var e env.Env
	wantEnv(t, "over a zero one", e.Over(), nil, nil)
	wantEnv(t, "a copy of a zero one", e.Copy(), nil, nil)
	if e.Add() != api.OK || e.Add(axiom("")) != api.ErrName || e.Add(axioms("a", "a")...) != api.ErrTaken {
		t.Error("Add to a zero one")
	}
	over, copied := e.Over(), e.Copy()
	add(t, &e, "a", "b")
	add(t, over, "a")
	add(t, copied, "b")
	wantEnv(t, "a zero one, then", &e, nil, []string{"a", "b"})
	wantEnv(t, "over it", over, nil, []string{"a"})
	wantEnv(t, "its copy", copied, nil, []string{"b"})
}
