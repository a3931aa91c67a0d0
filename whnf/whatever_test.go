package whnf_test

import (
	"fmt"
	"math"
	"slices"
	"testing"

	"touchstone/api"
	"touchstone/env"
	"touchstone/term"
	"touchstone/whnf"
)

// ring: a term that is below itself, in each of so many Args.
func ring(kind, args int) api.Term {
	list := make([]api.Term, args)
	t := api.Term{Kind: kind, Name: "r", Args: list}
	for i := range list {
		list[i] = t
	}
	return t
}

// ringLevel: a level that is below itself.
func ringLevel(args int) api.Level {
	list := make([]api.Level, args)
	l := api.Level{Kind: api.LevelMax, Args: list}
	for i := range list {
		list[i] = l
	}
	return l
}

// doubled: a term of 2^n parts and more, in little memory.
func doubled(kind, n int, t api.Term) api.Term {
	for range n {
		t = node(kind, t, t)
	}
	return t
}

// endless: a chain of Pis, Apps and so on by one side, that comes back to itself.
func endless(kind, side int) api.Term {
	list := make([]api.Term, 2)
	t := node(kind, list...)
	list[side] = t
	list[1-side] = con("I")
	return t
}

// notWhole: terms with an end that are not whole, or have Levels that may not be.
func notWhole() map[string]api.Term {
	all := map[string]api.Term{}
	for kind := -1; kind <= 7; kind++ {
		for args := range 5 {
			x := api.Term{Kind: kind, N: 3, Name: "two", Levels: []api.Level{param(9)}}
			for range args {
				x.Args = append(x.Args, app(v(0), con("zero")))
			}
			all[fmt.Sprintf("of kind %d with %d Args", kind, args)] = x
		}
	}
	all["a Sort of a great Level"] = sortOf(tallOver(70000, param(0)))
	all["many Consts of odd Levels"] = bushy(201, con("id", broadOver(500, param(0)), tallOver(33, param(0)), api.Level{Kind: -1}, api.Level{Kind: api.LevelParam, N: -5}))
	all["a Var below 0"] = v(-1)
	all["the least Var"] = v(math.MinInt)
	all["the greatest Var"] = v(math.MaxInt)
	return all
}

// withoutEnd: terms without end, or with more parts than memory.
func withoutEnd() map[string]api.Term {
	return map[string]api.Term{
		"a ring of kind 0": ring(api.TermVar, 2), "a ring of kind -1": ring(-1, 1), "a wide ring": ring(9, 1<<20), "a ring by three": ring(api.TermLet, 3),
		"Apps to the left": endless(api.TermApp, 0), "Apps to the right": endless(api.TermApp, 1), "Lams": endless(api.TermLam, 1),
		"Pis": endless(api.TermPi, 1), "doubled": doubled(api.TermPi, 80, v(0)), "a great term": bushy(1<<20+1, con("a")),
	}
}

// everyCall: each call of the package, with these. What is told beside an error is zero.
func everyCall(t *testing.T, what string, e *env.Env, x, y api.Term, meters ...api.Meter) {
	for _, m := range meters {
		u, did, n, err := whnf.Once(e, x, m)
		if err != api.OK && (did || !term.Equal(u, api.Term{})) || n.Cells != m.Cells || n.Fuel > m.Fuel {
			t.Errorf("%s: Once with %v: %s, %v, %v, %d", what, m, show(u), did, n, err)
		}
		u, n, err = whnf.Whnf(e, x, m)
		if err != api.OK && !term.Equal(u, api.Term{}) || n.Cells != m.Cells || n.Fuel > m.Fuel {
			t.Errorf("%s: Whnf with %v: %s, %v, %d", what, m, show(u), n, err)
		}
	}
	if u, did := whnf.Iota(e, x, y); !did && !term.Equal(u, api.Term{}) {
		t.Errorf("%s: Iota: %s", what, show(u))
	}
}

var (
	someFuel  = api.Meter{Fuel: 50, Cells: 300}
	allCells  = api.Meter{Fuel: 20, Cells: math.MaxInt}
	belowNone = api.Meter{Fuel: math.MinInt, Cells: math.MinInt}
)

// R1, R2: every call ends, and none panics, whatever terms it is handed.
func TestWhateverTerms(t *testing.T) {
	e := common()
	r := of(`(((Nat.rec{0} C) a) b)`)
	meters := []api.Meter{{}, someFuel, allCells, belowNone}
	for what, x := range notWhole() {
		everyCall(t, what, e, x, x, meters...)
		everyCall(t, what+", applied", e, app(x, con("a"), x), con("zero"), meters...)
		everyCall(t, what+", as an argument", e, app(lam(con("a"), app(v(0), v(1))), x), x, meters...)
		everyCall(t, what+", in a Lam", e, app(lam(x, x), v(1)), x, meters...)
		everyCall(t, what+", in a Let", e, let(x, x, x), x, meters...)
		everyCall(t, what+", as a major", e, app(r, x), x, meters...)
		everyCall(t, what+", in a constructor's term", e, app(r, app(con("suc"), x)), app(con("suc"), x), meters...)
		everyCall(t, what+", behind a major", e, app(r, con("zero"), x), con("zero"), meters...)
	}
	rings := slices.Repeat([]api.Level{ringLevel(1), ringLevel(2)}, 30)
	for _, x := range []api.Term{sortOf(ringLevel(2)), con("c", rings...), bushy(2001, con("id", rings...))} {
		everyCall(t, "rings of Levels", e, x, x, meters...)
		everyCall(t, "rings of Levels, as an argument", e, app(lam(con("a"), app(v(0), v(1))), x), x, meters...)
		everyCall(t, "rings of Levels, as a major", e, app(r, app(con("suc"), x)), app(con("suc"), x), meters...)
	}
	for what, x := range withoutEnd() {
		everyCall(t, what, e, x, x, allCells)
		everyCall(t, what+", as an argument", e, app(lam(con("a"), app(v(0), v(1))), x), con("a"), someFuel)
		everyCall(t, what+", as a major", e, app(r, x), con("zero"), allCells)
		everyCall(t, what+", as a major that is handed in", e, app(r, v(0)), x)
	}
}

// whatever: an environment in whose declarations x stands.
func whatever(x api.Term) *env.Env {
	return with(
		api.Decl{Kind: api.DeclDef, Name: "d", Params: 1, Value: x},
		api.Decl{Kind: api.DeclFamily, Name: "I", Type: x, Ctors: []api.Ctor{{Name: "k", Type: of("!I. I")}}},
		api.Decl{Kind: api.DeclFamily, Name: "J", Count: 1, Type: of("!a. *0"), Ctors: []api.Ctor{{Name: "j", Type: pi(x, pi(app(con("J"), x), x))}, {Name: "j", Type: x}}},
		api.Decl{Kind: api.DeclRec, Name: "I.rec", Params: 1, Family: "I"},
		api.Decl{Kind: api.DeclRec, Name: "J.rec", Params: 1, Family: "J"},
	)
}

// R1, R2: every call ends, and none panics, whatever declarations there are.
func TestWhateverDeclarations(t *testing.T) {
	level := succ(param(0))
	k, j := app(con("k"), v(1)), row(con("j"), v(2), 2)
	ofDefinition := app(con("d", level), con("a"))
	ofFamily := app(con("I.rec", level), con("C"), con("c"), k, con("z"))
	ofConstructor := row(app(con("J.rec", level), con("p"), con("C"), con("c"), con("c")), j, 3)
	for what, x := range notWhole() {
		e := whatever(x)
		everyCall(t, what+", of a definition", e, ofDefinition, con("a"), api.Meter{}, someFuel, allCells)
		everyCall(t, what+", of a family", e, ofFamily, k, api.Meter{}, someFuel, allCells)
		everyCall(t, what+", of a constructor", e, ofConstructor, j, api.Meter{}, someFuel, allCells)
	}
	endless := withoutEnd()
	endless["a ring of Levels"] = sortOf(ringLevel(2))
	for what, x := range endless {
		e := whatever(x)
		if u, n, err := whnf.Whnf(e, ofDefinition, allCells); !term.Equal(u, api.Term{}) || n.Fuel != allCells.Fuel-1 || err != api.ErrCells {
			t.Errorf("%s, of a definition: %s, %v, %d, want ErrCells: it fits nowhere", what, show(u), n, err)
		}
		whnf.Iota(e, ofFamily, k)
		whnf.Whnf(e, ofConstructor, someFuel)
	}
}

// R1: every call ends, and none panics, whatever numbers declarations have.
func TestWhateverNumbers(t *testing.T) {
	numbers := []int{math.MinInt, -1, 0, 1, 2, 3, 101, 1 << 31, math.MaxInt}
	for _, params := range numbers {
		for _, count := range numbers {
			e := with(
				api.Decl{Kind: api.DeclDef, Name: "d", Params: params, Count: count, Value: of(`*p3`)},
				api.Decl{Kind: api.DeclFamily, Name: "I", Params: params, Count: count, Type: of(`!a. !a. *0`), Ctors: []api.Ctor{{Name: "k", Type: of(`!a. !I. !I. I`)}, {}, {Name: "k"}}},
				api.Decl{Kind: api.DeclRec, Name: "r", Params: params, Count: count, Family: "I"},
				api.Decl{Kind: api.DeclRec, Name: "s", Params: params, Count: count},
			)
			for levels := range 4 {
				l := make([]api.Level, levels)
				for args := range 9 {
					major := row(con("k"), v(args), args%4)
					everyCall(t, "numbers", e, row(con("r", l...), major, args), major, someFuel)
					everyCall(t, "numbers", e, row(con("d", l...), major, args), major, someFuel)
					everyCall(t, "numbers", e, row(con("s", l...), api.Term{Kind: api.TermConst}, args), major, someFuel)
				}
			}
		}
	}
}

// R1: names that are no names, and great ones.
func TestWhateverNames(t *testing.T) {
	long := make([]byte, 1<<24)
	for _, name := range []string{"", ".", "\x00", "a.", "rec", ".rec", string(long)} {
		x := app(con(name), con(name))
		if u, n, err := whnf.Whnf(common(), x, much); !term.Equal(u, x) || n != much || err != api.OK {
			t.Errorf("Whnf of a Const whose Name has %d bytes: %v, %d", len(name), n, err)
		}
		if _, did := whnf.Iota(common(), of(`((((Nat.rec{0} C) a) b) #9)`), con(name)); did {
			t.Errorf("Iota of a Const whose Name has %d bytes did", len(name))
		}
	}
}
