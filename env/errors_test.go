package env_test

import (
	"slices"
	"strings"
	"testing"

	"touchstone/api"
	"touchstone/env"
	"touchstone/names"
)

// noNames: texts that are no names.
func noNames() []string {
	return []string{
		"", " ", "1", "1a", "a.", ".b", "a..b", "a.1", "_a", "a b", "a ", " a", "a-b", "\u00e4", "a\u00e4", "a\x00", "a\n", "#0", "a{0}", "\xff",
		"a" + strings.Repeat("b", api.MaxName), strings.Repeat("a", 1<<20), "a" + strings.Repeat("1", api.MaxName-2) + ".",
	}
}

// someNames: texts that are names.
func someNames() []string {
	return []string{"a", "Z", "a1", "a_", "a.b", "a.b.c", "a__.b9", "z" + strings.Repeat("9", api.MaxName-1), "y." + strings.Repeat("b", api.MaxName-2)}
}

// wantRefused: Add of l tells why not, and nothing comes to e.
func wantRefused(t *testing.T, e *env.Env, l []api.Decl, why api.Errno) {
	t.Helper()
	all, length := e.All(), e.Len()
	if got := e.Add(l...); got != why {
		t.Errorf("Add of %q to %q: error %d; want %d", namesOf(l), namesOf(all), got, why)
	}
	if e.Len() != length || !slices.EqualFunc(e.All(), all, alike) {
		t.Errorf("Add of %q to %q: now it is %q, Len %d", namesOf(l), namesOf(all), namesOf(e.All()), e.Len())
	}
	had := namesOf(all)
	for _, x := range l {
		if _, ok := e.Find(x.Name); ok != slices.Contains(had, x.Name) || e.Own(x.Name) && !ok {
			t.Errorf("Add of %q to %q: Find(%q) %v, Own %v", namesOf(l), had, x.Name, ok, e.Own(x.Name))
		}
	}
}

// all that envs are like: with nothing, with some, with some beneath, and two beneath.
func envs(t *testing.T) []*env.Env {
	full := with(t, "a", "b").Over()
	add(t, full, "e", "f")
	empty := full.Over()
	top := full.Over()
	add(t, top, "x", "y", "z")
	return []*env.Env{env.New(), with(t, "x"), with(t, "x", "y").Over(), full, empty, top}
}

// P11.1: ErrName, wherever the one stands whose Name is no name.
func TestNoName(t *testing.T) {
	for _, no := range noNames() {
		for _, e := range envs(t) {
			for place := range 4 {
				l := slices.Insert(axioms("p", "q", "r"), place, axiom(no))
				wantRefused(t, e, l, api.ErrName)
			}
			wantRefused(t, e, axioms(no), api.ErrName)
			wantRefused(t, e, axioms(no, no), api.ErrName)
			if got := e.Add(axioms("p", "q", "r")...); got != api.OK {
				t.Errorf("Add of what was refused with another one: error %d", got)
			}
		}
	}
}

// P11.1: all names may be added.
func TestNames(t *testing.T) {
	all := someNames()
	for _, name := range all {
		if !names.May(name) {
			t.Fatalf("%q is no name", name)
		}
		wantEnv(t, name, with(t, name), nil, []string{name})
	}
	wantEnv(t, "all", with(t, all...), nil, all)
}

// P11.1: ErrTaken, wherever the one stands whose Name is there: its own, beneath, two beneath, or twice.
func TestTaken(t *testing.T) {
	for _, e := range envs(t) {
		for _, taken := range namesOf(e.All()) {
			for place := range 4 {
				wantRefused(t, e, slices.Insert(axioms("p", "q", "r"), place, axiom(taken)), api.ErrTaken)
			}
			wantRefused(t, e, axioms(taken), api.ErrTaken)
			wantRefused(t, e, axioms(taken, taken), api.ErrTaken)
		}
		wantRefused(t, e, axioms("p", "p"), api.ErrTaken)
		wantRefused(t, e, axioms("p", "q", "p"), api.ErrTaken)
		wantRefused(t, e, axioms("q", "p", "p"), api.ErrTaken)
		wantRefused(t, e, axioms("p", "p", "p"), api.ErrTaken)
		wantRefused(t, e, axioms("p", "p", "q"), api.ErrTaken)
		add(t, e, "p", "q", "r")
		wantRefused(t, e, axioms("r"), api.ErrTaken)
	}
}

// P11.1, R2: ErrName is told ahead of ErrTaken, wherever both stand.
func TestBothErrors(t *testing.T) {
	for _, e := range envs(t) {
		for _, taken := range append(namesOf(e.All()), "") {
			l := axioms(taken, "p", "q")
			if taken == "" {
				l = axioms("p", "q", "p")
			}
			for place := range len(l) + 1 {
				for _, no := range []string{"1", "", "a."} {
					wantRefused(t, e, slices.Insert(slices.Clone(l), place, axiom(no)), api.ErrName)
				}
			}
			slices.Reverse(l)
			for place := range len(l) + 1 {
				wantRefused(t, e, slices.Insert(slices.Clone(l), place, axiom("1")), api.ErrName)
			}
		}
	}
}

// P11.1: the Name alone says what may be added: the other texts of a declaration may be whatever they are.
func TestOtherTexts(t *testing.T) {
	e := with(t, "a").Over()
	odd := api.Decl{Kind: api.DeclFamily, Name: "b", Family: "1", Type: con("."), Value: con("a"), Ctors: []api.Ctor{{Name: "a"}, {Name: "b"}, {Name: "b"}, {Name: ""}, {Name: "1"}}}
	ctor := api.Decl{Kind: api.DeclCtor, Name: "d", Family: "none", Count: 5}
	if got := e.Add(odd, ctor); got != api.OK {
		t.Errorf("error %d", got)
	}
	wantDecls(t, "odd ones", e, axioms("a"), []api.Decl{odd, ctor})
	if _, ok := e.Find("1"); ok || e.Own("none") {
		t.Error("a Ctor, or a Family, is found as a declaration")
	}
}

// R1: texts that are no names are never found.
func TestFindNoName(t *testing.T) {
	for _, e := range envs(t) {
		for _, no := range noNames() {
			if got, ok := e.Find(no); ok || e.Own(no) || !alike(got, api.Decl{}) {
				t.Errorf("%.30q is found", no)
			}
		}
	}
}
