package conv_test

import (
	"fmt"
	"math"
	"slices"
	"testing"

	"touchstone/api"
	"touchstone/conv"
	"touchstone/env"
)

// ring: a term that is below itself, in each of so many Args.
func ring(kind, args int) api.Term {
	list := make([]api.Term, args)
	t := api.Term{Kind: kind, Name: "r", Args: list}
	for i := range list {
		list[i] = t
	}
	return t
}

// ringLevel: a level that is below itself, so many times, and beside that is end.
func ringLevel(args int, end ...api.Level) api.Level {
	list := make([]api.Level, args)
	l := api.Level{Kind: api.LevelMax, Args: append(list, end...)}
	for i := range list {
		l.Args[i] = l
	}
	return l
}

// notWhole: terms with an end that are not whole, or have Levels that may not be.
func notWhole() map[string]api.Term {
	all := map[string]api.Term{}
	for kind := -1; kind <= 7; kind++ {
		for args := range 5 {
			x := api.Term{Kind: kind, N: 3, Name: "two", Levels: []api.Level{param(9)}}
			for range args {
				x.Args = append(x.Args, app(v(0), con("zero")))
			}
			all[fmt.Sprintf("of kind %d with %d Args", kind, args)] = x
		}
	}
	tall, broad := param(0), api.Level{Kind: api.LevelMax}
	for range 70000 {
		tall = succ(tall)
		broad.Args = append(broad.Args, param(1))
	}
	all["a Sort of a tall Level"] = sortOf(tall)
	all["a Sort of a broad Level"] = sortOf(broad)
	all["odd Levels"] = con("id", api.Level{Kind: -1}, api.Level{Kind: 5, Args: []api.Level{{}}}, api.Level{Kind: api.LevelParam, N: -5}, api.Level{Kind: api.LevelSucc})
	all["a Var below 0"] = v(-1)
	all["the least Var"] = v(math.MinInt)
	all["the greatest Var"] = v(math.MaxInt)
	all["a great name"] = con(string(make([]byte, 1<<20)))
	all["no name"] = con("")
	return all
}

// withoutEnd: terms without end, or with more parts than memory.
func withoutEnd() map[string]api.Term {
	twice := func(t api.Term) api.Term { return pi(t, t) }
	return map[string]api.Term{
		"a ring of kind 0": ring(api.TermVar, 2), "a ring of kind -1": ring(-1, 1), "a wide ring": ring(9, 1<<20), "a ring by three": ring(api.TermLet, 3),
		"Apps": ring(api.TermApp, 2), "Lams": ring(api.TermLam, 2), "Pis": ring(api.TermPi, 2), "doubled": around(v(0), 80, twice), "a great term": row(con("a"), con("b"), 1<<19),
	}
}

// everyCall: each call of the package, with these, either way round. What is told beside an error is zero.
func everyCall(t *testing.T, what string, e *env.Env, a, b api.Term, meters ...api.Meter) {
	t.Helper()
	for range 2 {
		for _, m := range meters {
			is, n, err := conv.Conv(e, a, b, m)
			if err != api.OK && is || n.Cells != m.Cells || n.Fuel > m.Fuel {
				t.Errorf("%s: Conv with %v: %v, %v, %d", what, m, is, n, err)
			}
		}
		conv.Alike(a, b)
		a, b = b, a
	}
}

var meters = []api.Meter{{}, {Fuel: 50, Cells: 300}, {Fuel: 20, Cells: math.MaxInt}, {Fuel: math.MinInt, Cells: math.MinInt}}

// R1, R2: every call ends, and none panics, whatever terms it is handed.
func TestWhateverTerms(t *testing.T) {
	e := common()
	r := of(`(((Nat.rec{0} C) a) b)`)
	for what, x := range notWhole() {
		for _, y := range []api.Term{con("a"), of(`\a. #0`), of(`!a. b`), r, roomy(x)} {
			everyCall(t, what, e, x, y, meters...)
			everyCall(t, what+", applied", e, app(x, con("a"), x), app(y, con("a"), y), meters...)
			everyCall(t, what+", as an argument", e, app(lam(con("a"), app(v(0), v(1))), x), app(con("f"), y), meters...)
			everyCall(t, what+", as a second argument", e, app(con("f"), app(con("i"), y), x), app(con("f"), y, y), meters...)
			everyCall(t, what+", in a Lam", e, lam(x, x), lam(y, y), meters...)
			everyCall(t, what+", in a Lam alone", e, lam(con("a"), x), y, meters...)
			everyCall(t, what+", in a Pi", e, pi(x, x), pi(y, y), meters...)
			everyCall(t, what+", as a major", e, app(r, x), app(r, y), meters...)
		}
	}
	for what, x := range withoutEnd() {
		for _, y := range []api.Term{of(`\a. #0`), app(con("f"), x), x} {
			everyCall(t, what, e, x, y, meters[2])
			if conv.Alike(x, y) || conv.Alike(y, x) {
				t.Errorf("%s is alike to something", what)
			}
		}
		is, n, err := conv.Conv(e, con("two"), x, api.Meter{Fuel: 9, Cells: 9})
		if is || n != (api.Meter{Fuel: 7, Cells: 9}) || err != api.ErrCells {
			t.Errorf("Conv of two and %s: %v, %v, %d, want ErrCells", what, is, n, err)
		}
	}
}

// R1, R4: every call ends, whatever Levels there are, and what it says hangs on what they are, not on where they lie.
func TestWhateverLevels(t *testing.T) {
	all := map[string]api.Level{"a ring": ringLevel(1), "a ring by two": ringLevel(2), "a ring and a zero": ringLevel(1, api.Level{}), "a ring and one more": ringLevel(1, succ(api.Level{}))}
	for what, x := range notWhole() {
		for i, l := range x.Levels {
			all[fmt.Sprint(what, ", ", i)] = l
		}
	}
	for what, l := range all {
		for _, x := range []api.Term{sortOf(l), con("c", l, l), con("c", slices.Repeat([]api.Level{l}, 70)...), app(con("f"), sortOf(l)), lam(sortOf(l), v(0))} {
			everyCall(t, what, nil, x, con("a"), meters...)
			if !conv.Alike(x, x) {
				t.Errorf("%s: not alike to itself", what)
			}
			if !conv.Alike(x, anew(x)) {
				t.Errorf("%s: not alike to itself in other memory", what)
			}
			if is, _, err := conv.Conv(nil, x, anew(x), meters[1]); !is || err != api.OK {
				t.Errorf("%s: Conv of it and itself in other memory: %v, %d", what, is, err)
			}
		}
	}
	if conv.Alike(sortOf(all["a ring and a zero"]), sortOf(all["a ring and one more"])) {
		t.Error("rings that part are alike")
	}
}

// anew: t with lists of its own. What stands below its Levels stays where it is.
func anew(t api.Term) api.Term {
	t.Levels = slices.Clone(t.Levels)
	for i := range t.Levels {
		t.Levels[i].Args = slices.Clone(t.Levels[i].Args)
	}
	var args []api.Term
	for _, a := range t.Args {
		args = append(args, anew(a))
	}
	t.Args = args
	return t
}

// whatever: an environment in whose declarations x stands.
func whatever(x api.Term) *env.Env {
	return with(
		api.Decl{Kind: api.DeclDef, Name: "d", Params: 1, Value: x}, api.Decl{Kind: api.DeclDef, Name: "e", Params: 1, Value: x},
		api.Decl{Kind: api.DeclFamily, Name: "I", Type: x, Ctors: []api.Ctor{{Name: "k", Type: of("!I. I")}}},
		api.Decl{Kind: api.DeclFamily, Name: "J", Type: of("*0"), Ctors: []api.Ctor{{Name: "k", Type: pi(x, x)}}},
		api.Decl{Kind: api.DeclRec, Name: "I.rec", Params: 1, Family: "I"}, api.Decl{Kind: api.DeclRec, Name: "J.rec", Params: 1, Family: "J"},
	)
}

// R1, R2: every call ends, and none panics, whatever declarations there are.
func TestWhateverDeclarations(t *testing.T) {
	level := succ(param(0))
	k := app(con("k"), v(1))
	ofFamily, ofConstructor := app(con("I.rec", level), con("C"), con("c"), k), app(con("J.rec", level), con("C"), con("c"), k)
	for what, x := range notWhole() {
		e := whatever(x)
		for _, y := range []api.Term{con("a"), of(`\a. #0`), con("e", level), k} {
			everyCall(t, what+", of a definition", e, con("d", level), y, meters[1])
			everyCall(t, what+", of a definition, applied", e, app(con("d", level), con("a")), app(y, con("a")), meters[2])
			everyCall(t, what+", of a family", e, ofFamily, y, meters[1])
			everyCall(t, what+", of a constructor", e, ofConstructor, y, meters[1])
		}
	}
	endless := withoutEnd()
	endless["a ring of Levels"] = sortOf(ringLevel(2))
	for what, x := range endless {
		e := whatever(x)
		is, n, err := conv.Conv(e, con("d", level), con("a"), meters[2])
		if is || n != (api.Meter{Fuel: meters[2].Fuel - 2, Cells: meters[2].Cells}) || err != api.ErrCells {
			t.Errorf("%s, of a definition: %v, %v, %d, want ErrCells: it fits nowhere", what, is, n, err)
		}
		conv.Conv(e, k, ofFamily, meters[1])
		conv.Conv(e, ofConstructor, k, meters[1])
	}
}

// R1: every call ends, and none panics, whatever numbers declarations have.
func TestWhateverNumbers(t *testing.T) {
	numbers := []int{math.MinInt, -1, 0, 1, 2, 101, math.MaxInt}
	for _, params := range numbers {
		for _, count := range numbers {
			e := with(
				api.Decl{Kind: api.DeclDef, Name: "d", Params: params, Count: count, Value: of(`*p3`)},
				api.Decl{Kind: api.DeclFamily, Name: "I", Params: params, Count: count, Type: of(`!a. !a. *0`), Ctors: []api.Ctor{{Name: "k", Type: of(`!a. !I. !I. I`)}, {}, {Name: "k"}}},
				api.Decl{Kind: api.DeclRec, Name: "r", Params: params, Count: count, Family: "I"},
			)
			for levels := range 4 {
				l := make([]api.Level, levels)
				for args := range 8 {
					major := row(con("k"), v(args), args%4)
					everyCall(t, "numbers", e, row(con("r", l...), major, args), row(con("d", l...), major, args), meters[1])
					everyCall(t, "numbers", e, lam(con("a"), row(con("r", l...), major, args)), row(con("r", l...), major, args), meters[1])
				}
			}
		}
	}
}
