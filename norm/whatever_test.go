package norm_test

import (
	"fmt"
	"math"
	"slices"
	"testing"

	"touchstone/api"
	"touchstone/env"
	"touchstone/norm"
	"touchstone/term"
)

// ring: a term that is below itself, in each of so many Args.
func ring(kind, args int) api.Term {
	list := make([]api.Term, args)
	t := api.Term{Kind: kind, Name: "r", Args: list}
	for i := range list {
		list[i] = t
	}
	return t
}

// ringLevel: a level that is below itself, so many times.
func ringLevel(args int) api.Level {
	list := make([]api.Level, args)
	l := api.Level{Kind: api.LevelMax, Args: list}
	for i := range list {
		list[i] = l
	}
	return l
}

// endless: a chain of Pis, Apps and so on by one side, that comes back to itself.
func endless(kind, side int) api.Term {
	list := make([]api.Term, 2)
	t := node(kind, list...)
	list[side] = t
	list[1-side] = con("I")
	return t
}

// notWhole: terms with an end that are not whole, or have Levels that may not be.
func notWhole() map[string]api.Term {
	all := map[string]api.Term{}
	for kind := -1; kind <= 7; kind++ {
		for args := range 5 {
			x := api.Term{Kind: kind, N: 3, Name: "two", Levels: []api.Level{param(9)}}
			for range args {
				x.Args = append(x.Args, app(v(0), con("zero")))
			}
			all[fmt.Sprintf("of kind %d with %d Args", kind, args)] = x
		}
	}
	tall, broad := param(0), api.Level{Kind: api.LevelMax}
	for range 70000 {
		tall = succ(tall)
		broad.Args = append(broad.Args, param(1))
	}
	all["a Sort of a tall Level"] = sortOf(tall)
	all["a Sort of a broad Level"] = sortOf(broad)
	all["odd Levels"] = con("id", api.Level{Kind: -1}, api.Level{Kind: 5, Args: []api.Level{{}}}, api.Level{Kind: api.LevelParam, N: -5}, api.Level{Kind: api.LevelSucc})
	all["a Var below 0"] = v(-1)
	all["the least Var"] = v(math.MinInt)
	all["the greatest Var"] = v(math.MaxInt)
	all["the greatest Var but one"] = v(math.MaxInt - 1)
	all["a great name"] = con(string(make([]byte, 1<<20)))
	all["no name"] = con("")
	return all
}

// withoutEnd: terms without end, or with more parts than memory.
func withoutEnd() map[string]api.Term {
	return map[string]api.Term{
		"a ring of kind 0": ring(api.TermVar, 2), "a ring of kind -1": ring(-1, 1), "a wide ring": ring(9, 1<<20), "a ring by three": ring(api.TermLet, 3),
		"Apps to the left": endless(api.TermApp, 0), "Apps to the right": endless(api.TermApp, 1), "Lams": endless(api.TermLam, 1), "Lams to the left": endless(api.TermLam, 0),
		"Pis": endless(api.TermPi, 1), "doubled": around(v(0), 80, func(t api.Term) api.Term { return pi(t, t) }), "a great term": row(con("a"), con("b"), 1<<19),
	}
}

// check: that what is told beside an error is zero, and that only fuel is used.
func check(t *testing.T, what string, e *env.Env, x api.Term, meters ...api.Meter) {
	t.Helper()
	for _, m := range meters {
		u, n, err := norm.Norm(e, x, m)
		if err != api.OK && !term.Equal(u, api.Term{}) || n.Cells != m.Cells || n.Fuel > m.Fuel {
			t.Errorf("%s: Norm with %v: %s, %v, %d", what, m, show(u), n, err)
		}
	}
}

var meters = []api.Meter{{}, {Fuel: 50, Cells: 300}, {Fuel: 20, Cells: math.MaxInt}, {Fuel: math.MinInt, Cells: math.MinInt}, {Fuel: math.MaxInt, Cells: math.MaxInt}}

// R1, R2: every call ends, and none panics, whatever terms it is handed.
func TestWhateverTerms(t *testing.T) {
	e := common()
	r := of(`(((Nat.rec{0} C) a) b)`)
	for what, x := range notWhole() {
		check(t, what, e, x, meters...)
		check(t, what+", applied", e, app(x, con("a"), x), meters...)
		check(t, what+", as an argument", e, app(con("f"), x, x), meters...)
		check(t, what+", put in", e, app(lam(con("a"), app(con("f"), v(0), lam(v(0), app(v(1), v(1))))), x), meters...)
		check(t, what+", in a Lam", e, lam(x, x), meters...)
		check(t, what+", in a Pi", e, pi(x, x), meters...)
		check(t, what+", in a Let", e, let(x, x, x), meters...)
		check(t, what+", applied to a variable", e, lam(con("a"), app(x, v(0))), meters...)
		check(t, what+", applied to a variable by steps", e, lam(x, app(lam(con("a"), app(x, v(0))), v(0))), meters...)
		check(t, what+", in place of a variable", e, lam(con("a"), app(con("f"), x)), meters...)
		check(t, what+", as a major", e, app(r, x), meters...)
		check(t, what+", in a constructor's term", e, app(r, app(con("suc"), x)), meters...)
	}
	rings := slices.Repeat([]api.Level{ringLevel(1), ringLevel(2)}, 30)
	for _, x := range []api.Term{sortOf(ringLevel(2)), con("c", rings...), bushy(2001, con("id", rings...))} {
		check(t, "rings of Levels", e, x, meters...)
		check(t, "rings of Levels, in a Lam", e, lam(x, app(x, v(0))), meters...)
	}
	for what, x := range withoutEnd() {
		for _, x := range []api.Term{x, app(con("f"), x), lam(x, x), app(r, x)} {
			m := api.Meter{Fuel: 9, Cells: math.MaxInt}
			if u, n, err := norm.Norm(e, x, m); !term.Equal(u, api.Term{}) || n != (api.Meter{Fuel: 8, Cells: math.MaxInt}) || err != api.ErrCells {
				t.Errorf("%s: %s, %v, %d, want ErrCells behind a step", what, show(u), n, err)
			}
			if u, n, err := norm.Norm(e, x, api.Meter{Cells: 9}); !term.Equal(u, api.Term{}) || n != (api.Meter{Cells: 9}) || err != api.ErrFuel {
				t.Errorf("%s, without fuel: %s, %v, %d, want ErrFuel", what, show(u), n, err)
			}
		}
	}
}

// whatever: an environment in whose declarations x stands.
func whatever(x api.Term) *env.Env {
	return with(
		api.Decl{Kind: api.DeclDef, Name: "d", Params: 1, Value: x},
		api.Decl{Kind: api.DeclFamily, Name: "I", Type: x, Ctors: []api.Ctor{{Name: "k", Type: of("!I. I")}}},
		api.Decl{Kind: api.DeclFamily, Name: "J", Count: 1, Type: of("!a. *0"), Ctors: []api.Ctor{{Name: "j", Type: pi(x, pi(app(con("J"), x), x))}, {Name: "j", Type: x}}},
		api.Decl{Kind: api.DeclRec, Name: "I.rec", Params: 1, Family: "I"}, api.Decl{Kind: api.DeclRec, Name: "J.rec", Params: 1, Family: "J"},
	)
}

// R1, R2: every call ends, and none panics, whatever declarations there are.
func TestWhateverDeclarations(t *testing.T) {
	level := succ(param(0))
	k, j := app(con("k"), v(1)), row(con("j"), v(2), 2)
	ofDefinition := app(con("f"), con("d", level), lam(con("a"), app(con("d", level), v(0))))
	ofFamily := app(con("I.rec", level), con("C"), con("c"), k, con("z"))
	ofConstructor := row(app(con("J.rec", level), con("p"), con("C"), con("c"), con("c")), j, 3)
	for what, x := range notWhole() {
		e := whatever(x)
		check(t, what+", of a definition", e, ofDefinition, meters...)
		check(t, what+", of a family", e, ofFamily, meters...)
		check(t, what+", of a constructor", e, ofConstructor, meters...)
	}
	endless := withoutEnd()
	endless["a ring of Levels"] = sortOf(ringLevel(2))
	for what, x := range endless {
		e := whatever(x)
		m := api.Meter{Fuel: 20, Cells: math.MaxInt}
		if u, n, err := norm.Norm(e, ofDefinition, m); !term.Equal(u, api.Term{}) || n.Fuel != m.Fuel-3 || err != api.ErrCells {
			t.Errorf("%s, of a definition: %s, %v, %d, want ErrCells: it fits nowhere", what, show(u), n, err)
		}
		check(t, what+", of a family", e, ofFamily, meters[1])
		check(t, what+", of a constructor", e, ofConstructor, meters[1])
	}
}

// R1: every call ends, and none panics, whatever numbers declarations have.
func TestWhateverNumbers(t *testing.T) {
	numbers := []int{math.MinInt, -1, 0, 1, 2, 101, math.MaxInt}
	for _, params := range numbers {
		for _, count := range numbers {
			e := with(
				api.Decl{Kind: api.DeclDef, Name: "d", Params: params, Count: count, Value: of(`\a. (*p3 #0)`)},
				api.Decl{Kind: api.DeclFamily, Name: "I", Params: params, Count: count, Type: of(`!a. !a. *0`), Ctors: []api.Ctor{{Name: "k", Type: of(`!a. !I. !I. I`)}, {}, {Name: "k"}}},
				api.Decl{Kind: api.DeclRec, Name: "r", Params: params, Count: count, Family: "I"},
			)
			for levels := range 4 {
				l := make([]api.Level, levels)
				for args := range 8 {
					major := row(con("k"), v(args), args%4)
					check(t, "numbers", e, row(con("r", l...), major, args), meters[1])
					check(t, "numbers", e, lam(con("a"), row(con("d", l...), major, args)), meters[1])
				}
			}
		}
	}
}
