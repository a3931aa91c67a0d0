package graph

import (
	"testing"

	"touchstone/api"
	"touchstone/env"
	"touchstone/term"
	"touchstone/text"
)

// of: the term that a text says.
func of(t *testing.T, s string) api.Term {
	t.Helper()
	x, place, err := text.Parse(s)
	if err != api.OK {
		t.Fatalf("%q goes wrong at %d: %d", s, place, err)
	}
	return x
}

// natural: natural numbers, their recursor, and definitions.
func natural(t *testing.T) *env.Env {
	e := env.New()
	err := e.Add(
		api.Decl{Kind: api.DeclFamily, Name: "Nat", Type: of(t, "*S0"), Ctors: []api.Ctor{{Name: "zero", Type: of(t, "Nat")}, {Name: "suc", Type: of(t, "!Nat. Nat")}}},
		api.Decl{Kind: api.DeclRec, Name: "Nat.rec", Params: 1, Family: "Nat"},
		api.Decl{Kind: api.DeclDef, Name: "i", Value: of(t, `\a. #0`)}, api.Decl{Kind: api.DeclDef, Name: "loop", Value: of(t, `loop`)},
	)
	if err != api.OK {
		t.Fatal(err)
	}
	return e
}

// What a Book knows of a term turns no answer: asked again, and of what is fed or lifted, it tells what a new one tells
// of the same term that is read anew, down to what is left of the fuel.
func TestBookKnows(t *testing.T) {
	e := natural(t)
	const r = `(((Nat.rec{0} C) a) b)`
	for _, s := range []string{
		`a`, `#2`, `*0`, `!a. b`, `\a. #0`, `(f #1)`, `(i a)`, `(i \a. #0)`, `loop`, `zero`, `(suc (i #0))`, `i{0}`,
		r, `((Nat.rec{0} C) a)`, `Nat.rec{0}`, `(` + r + ` #1)`, `(` + r + ` (i #1))`, `(` + r + ` (i (i #1)))`, `((` + r + ` (i #1)) b)`, `(` + r + ` loop)`,
		`(` + r + ` (suc (i #1)))`, `(` + r + ` (i zero))`, `(` + r + ` (` + r + ` (i #1)))`, `(` + r + ` (` + r + ` (` + r + ` (i (f #0)))))`, `(i (` + r + ` (i #1)))`,
		`(` + r + ` (i \a. #0))`, `(` + r + ` \a. #0)`, `(` + r + ` (` + r + ` \a. (i #0)))`, `(((Nat.rec{0} C) (i a)) b)`, `(` + r + ` (` + r + ` (suc (i #0))))`,
	} {
		x := of(t, s)
		for fuel := range 14 {
			b, n := NewBook(e), Read(&x)
			m := api.Meter{Fuel: 13, Cells: 100}
			b.Whnf(n, m) // what it finds it knows from now on
			ways := map[string]*Node{"again": n, "fed": b.Fed(n), "fed twice": b.Fed(b.Fed(n)), "lifted": b.lifts.lifted(n, 3, 0), "lifted and fed": b.Fed(b.lifts.lifted(n, 1, 1)), "as a major": Read(&x)}
			major := of(t, r)
			ways["as a major"] = Branch(api.TermApp, Read(&major), n)
			for what, n := range ways {
				want, ok := n.Told()
				if !ok {
					t.Fatal(s, what, "can't be told")
				}
				holdWhnf(t, s+" "+what, e, b, n, want, api.Meter{Fuel: fuel, Cells: 100})
				holdWhnf(t, s+" "+what+", and again", e, b, n, want, api.Meter{Fuel: fuel, Cells: 100})
				holdWhnf(t, s+" "+what+", with fuel below 0", e, b, n, want, api.Meter{Fuel: -fuel, Cells: 100})
			}
		}
	}
}

// holdWhnf: holds what b tells of n against what a new Book tells of x, which is the same term.
func holdWhnf(t *testing.T, what string, e *env.Env, b *Book, n *Node, x api.Term, m api.Meter) {
	t.Helper()
	u, left, err := b.Whnf(n, m)
	wantU, wantLeft, wantErr := NewBook(e).Whnf(Read(&x), m)
	if left != wantLeft || err != wantErr || (u == nil) != (wantU == nil) {
		t.Fatalf("%s with %v: %v, %d, want %v, %d", what, m, left, err, wantLeft, wantErr)
	}
	if u == nil {
		return
	}
	got, _ := u.Told()
	want, _ := wantU.Told()
	if !term.Equal(got, want) {
		t.Fatalf("%s with %v: %+v, want %+v", what, m, got, want)
	}
}
