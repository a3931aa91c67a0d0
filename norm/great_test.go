package norm_test

import (
	"fmt"
	"math"
	"testing"

	"touchstone/api"
	"touchstone/env"
	"touchstone/norm"
	"touchstone/term"
)

// great: more than any term of these tests needs.
var great = api.Meter{Fuel: api.MaxFuel, Cells: 1 << 20}

// around: so many times by around t.
func around(t api.Term, times int, by func(t api.Term) api.Term) api.Term {
	for range times {
		t = by(t)
	}
	return t
}

// row: f, applied to so many of a.
func row(f, a api.Term, count int) api.Term {
	for range count {
		f = app(f, a)
	}
	return f
}

// bushy: a term of so many parts (an odd number), as flat as may be, each of its ends leaf.
func bushy(parts int, leaf api.Term) api.Term {
	if parts == 1 {
		return leaf
	}
	one := (parts - 1) / 2
	if one%2 == 0 {
		one--
	}
	return app(bushy(one, leaf), bushy(parts-1-one, leaf))
}

// want: Norm tells that, with so much fuel, and is ErrFuel with one less.
func want(t *testing.T, what string, e *env.Env, x, to api.Term, m api.Meter, fuel int) {
	t.Helper()
	u, n, err := norm.Norm(e, x, m)
	if !term.Equal(u, to) || n != (api.Meter{Fuel: m.Fuel - fuel, Cells: m.Cells}) || err != api.OK {
		t.Errorf("%s: %d parts, %d steps, %d, want %d parts, %d steps", what, term.Size(u, 1<<20), m.Fuel-n.Fuel, err, term.Size(to, 1<<20), fuel)
	}
	if u, n, err := norm.Norm(e, x, api.Meter{Fuel: fuel - 1, Cells: m.Cells}); !term.Equal(u, api.Term{}) || n != (api.Meter{Cells: m.Cells}) || err != api.ErrFuel {
		t.Errorf("%s, with a step less: %d parts, %v, %d, want ErrFuel", what, term.Size(u, 1<<20), n, err)
	}
}

// P15.1: terms with as many parts nested in one another as may be, and the greatest of which something is promised.
func TestDeep(t *testing.T) {
	e := common()
	for _, x := range []struct {
		what  string
		by    func(t api.Term) api.Term
		steps int
	}{
		{"the only argument", func(t api.Term) api.Term { return app(con("suc"), t) }, 1},
		{"the first argument", func(t api.Term) api.Term { return app(con("f"), t, con("a")) }, 2},
		{"the last argument", func(t api.Term) api.Term { return app(con("f"), con("a"), t) }, 2},
		{"the type of a Lam", func(t api.Term) api.Term { return lam(t, con("a")) }, 2},
		{"a Lam", func(t api.Term) api.Term { return lam(con("a"), t) }, 2},
		{"the type of a Pi", func(t api.Term) api.Term { return pi(t, con("a")) }, 2},
		{"a Pi", func(t api.Term) api.Term { return pi(con("a"), t) }, 2},
		{"an argument in a Lam", func(t api.Term) api.Term { return lam(con("a"), app(con("f"), t)) }, 3},
		{"an argument's type", func(t api.Term) api.Term { return app(con("f"), pi(t, v(0)), con("a")) }, 4},
		{"a major", func(t api.Term) api.Term { return app(of(`(((Nat.rec{0} C) a) b)`), t) }, 4},
	} {
		for _, deep := range []int{100, 1 << 16} {
			what := fmt.Sprint(deep, " times ", x.what)
			want(t, what, e, around(con("c"), deep, x.by), around(con("c"), deep, x.by), great, deep*x.steps+1)
			if x.what != "a major" { // that is asked each time
				want(t, what+", around what takes steps", e, around(app(con("i"), con("c")), deep, x.by), around(con("c"), deep, x.by), great, deep*x.steps+3)
			}
			if u, n, err := norm.Norm(e, around(con("c"), deep, x.by), api.Meter{Fuel: 1 << 20, Cells: deep}); !term.Equal(u, api.Term{}) || n.Fuel <= 0 || err != api.ErrCells {
				t.Errorf("%s, with %d cells: %v, %d, want ErrCells", what, deep, n, err)
			}
		}
	}
}

// P15.1: the greatest terms of which something is promised.
func TestGreat(t *testing.T) {
	const parts = 1<<20 - 1
	x := bushy(parts, con("a", succ(param(1))))
	want(t, "flat", nil, x, x, great, 1+parts/2)
	x = row(con("f"), v(3), parts/2)
	want(t, "a row", nil, x, x, great, 1+parts/2)
	x = around(v(0), parts/2, func(t api.Term) api.Term { return lam(v(7), t) })
	want(t, "Lams", nil, x, x, great, parts)
	big := bushy(1<<18+1, v(5))
	want(t, "put in once", nil, app(lam(con("a"), app(con("f"), v(0))), big), app(con("f"), big), great, 1+1+(1<<17)+1)
	want(t, "put in and dropped", nil, app(lam(con("a"), con("f")), big), con("f"), great, 2)
}

// tower: so many Lams around f, applied to all their variables.
func tower(f api.Term, lams int) api.Term {
	for i := range lams {
		f = app(f, v(lams-1-i))
	}
	return around(f, lams, func(t api.Term) api.Term { return lam(con("a"), t) })
}

// P15.1: a tower of Lams that are applied to their variables in order is the function alone, with variables that are less.
func TestTowers(t *testing.T) {
	for _, lams := range []int{1, 2, 10, 1000, 1 << 16} {
		for _, x := range []struct {
			what    string
			in, out api.Term
			steps   int
		}{
			{"a Const", con("f"), con("f"), 0}, {"a Var", v(lams + 4), v(4), 0}, {"an App", app(con("f"), v(lams+4), v(lams)), app(con("f"), v(4), v(0)), 2},
			{"an App of a Lam", app(v(lams+2), lam(v(lams), app(v(lams+1), v(0), v(0)))), app(v(2), lam(v(0), app(v(1), v(0), v(0)))), 5},
			{"an App of a Pi", app(con("f"), pi(v(lams), pi(v(0), v(lams+2)))), app(con("f"), pi(v(0), pi(v(0), v(2)))), 5},
		} {
			want(t, fmt.Sprint(lams, " Lams, ", x.what), nil, tower(x.in, lams), x.out, great, 1+3*lams+x.steps)
		}
		// The variable of the outermost one stands in the function, too: so this one stays.
		stays := func(f api.Term, lams int) api.Term {
			return tower(app(f, lam(con("a"), app(v(0), v(lams)))), lams)
		}
		if lams > 1 {
			want(t, fmt.Sprint(lams, " Lams, the first one stays"), nil, stays(con("f"), lams), stays(con("f"), 1), great, 1+3*lams+4)
		}
	}
}

// P15.1: functions in Lams in functions, each with a variable of its own that is far outside.
func TestTowerOfTowers(t *testing.T) {
	const lams = 300
	in, out := con("f"), con("f")
	for i := range lams {
		outer := lams - 1 - i
		in = lam(con("a"), app(con("f"), lam(con("a"), app(v(0), in, v(2+2*outer+i))), v(0)))
		out = app(con("f"), lam(con("a"), app(v(0), out, v(1+outer+i))))
	}
	want(t, "functions in functions", nil, in, out, great, 1+8*lams)
}

// doubled: behind so many steps what stands in body, with 2^steps times end in the place of its Var 0.
func doubled(body api.Term, steps int, end api.Term) api.Term {
	x := around(body, steps, func(t api.Term) api.Term { return app(lam(con("a"), t), app(v(0), v(0))) })
	return app(lam(con("a"), x), end)
}

// P15.1: terms on the way that have far more parts than are told: what is done to them is counted, however often they
// share their parts, and they are ErrCells, or gone again.
func TestDoubled(t *testing.T) {
	const steps = 50
	m := api.Meter{Fuel: math.MaxInt, Cells: math.MaxInt}
	parts := 1<<(steps+1) - 1
	for what, end := range map[string]api.Term{"closed": con("c"), "open": v(5)} {
		for _, x := range []struct {
			what  string
			body  api.Term
			took  int // of 2^steps ends each but the first is an argument
			err   api.Errno
			cells int
		}{
			{"too great to be told", app(con("b"), v(0)), 1 << steps, api.ErrCells, math.MaxInt},
			{"too great for its cells", app(con("g"), v(0)), 1 << steps, api.ErrCells, 2*parts + 20},
			{"dropped", lam(v(0), app(con("f"), v(0))), 1<<steps + 2, api.OK, math.MaxInt},
		} {
			u, n, err := norm.Norm(nil, doubled(x.body, steps, end), api.Meter{Fuel: m.Fuel, Cells: x.cells})
			if err != x.err || err == api.OK && !term.Equal(u, con("f")) || n.Fuel != m.Fuel-1-(steps+1)-x.took {
				t.Errorf("%s, %s: %s, %d steps, %d, want %d steps, %d", what, x.what, show(u), m.Fuel-n.Fuel, err, 1+steps+1+x.took, x.err)
			}
		}
	}
	if u, n, err := norm.Norm(nil, doubled(app(con("b"), v(0)), steps, con("c")), api.Meter{Fuel: 1 << 40, Cells: math.MaxInt}); !term.Equal(u, api.Term{}) || n.Fuel != 0 || err != api.ErrFuel {
		t.Errorf("with less fuel than ends: %d parts, %v, %d", term.Size(u, 1000), n, err)
	}
	tree := con("c")
	for range 12 {
		tree = app(tree, tree)
	}
	want(t, "told", nil, doubled(app(con("b"), v(0)), 12, con("c")), app(con("b"), tree), great, 1+13+1<<12)
	want(t, "told, with steps in it", common(), doubled(app(con("b"), v(0)), 12, app(con("i"), con("c"))), app(con("b"), tree), api.Meter{Fuel: 1 << 20, Cells: 1 << 20}, 1+13+2+3*(1<<12-1)+1)
}

// P15.1: what shares its parts below more and more binders.
func TestDoubledBelowLams(t *testing.T) {
	for _, lams := range []int{1, 3, 9, 40} {
		x := around(app(con("b"), v(0)), lams, func(t api.Term) api.Term {
			return lam(con("a"), app(lam(con("a"), t), app(con("f"), v(1), lam(con("a"), v(2)))))
		})
		x = app(lam(con("a"), x), v(7))
		m := api.Meter{Fuel: math.MaxInt, Cells: 1 << 12}
		if lams < 9 {
			hold(t, nil, x, m)
		}
		if u, n, err := norm.Norm(nil, x, m); lams > 9 && (!term.Equal(u, api.Term{}) || err != api.ErrCells) {
			t.Errorf("%d Lams: %s, %v, %d, want ErrCells of a part that is too great", lams, show(u), m.Fuel-n.Fuel, err)
		}
		u, n, err := norm.Norm(nil, app(con("f"), lam(x, app(con("g"), v(0)))), api.Meter{Fuel: math.MaxInt, Cells: math.MaxInt})
		if !term.Equal(u, app(con("f"), con("g"))) || math.MaxInt-n.Fuel < 1<<lams || err != api.OK {
			t.Errorf("%d Lams, dropped: %s, %v, %d", lams, show(u), math.MaxInt-n.Fuel, err)
		}
	}
}

// P15.1: what has no end but its fuel, however much that is: by steps of a head, and by parts in parts.
func TestWithoutEnd(t *testing.T) {
	e := with(def("l", 0, `\a. l`), def("p", 0, `!a. p`), def("q", 0, `!q. a`), def("r", 0, `(f r)`), def("s", 0, `((f s) a)`), def("k", 1, `\a. (k{p0} a)`), def("d", 1, `!d{p0}. a{p0}`), def("e", 2, `!e{p1,p0}. a`),
		def("t", 0, `\t. (f #0)`), def("u", 1, `\u{p0}. (f #0)`), def("z", 0, `\z. \c. (#1 (z #0))`), def("y", 0, `\a. !a. (y #0)`), def("x", 0, `\a. (f \b. (x #0))`), def("loop", 0, "loop"),
		family("Nat", 0, "*S0", "zero", "Nat", "suc", "!Nat. Nat"), rec("Nat.rec", 1, "Nat"), def("m", 0, `((((Nat.rec{0} C) a) b) m)`), def("n", 0, `((((Nat.rec{0} C) n) b) #0)`))
	for _, s := range []string{`l`, `p`, `q`, `r`, `s`, `(k{0} a)`, `d{0}`, `e{0,S0}`, `t`, `u{p3}`, `(z #0)`, `(y b)`, `(x c)`, `loop`, `m`, `n`, `(f (f loop))`, `!a. \b. r`, `(\a. (#0 #0) \a. (#0 #0))`, `\(\a. (f (#0 #0)) \a. (f (#0 #0))). a`} {
		for _, fuel := range []int{1, 2, 3, 4, 5, 1000, 100000, api.MaxFuel, math.MaxInt} {
			if u, n, err := norm.Norm(e, of(s), api.Meter{Fuel: fuel, Cells: 60}); !term.Equal(u, api.Term{}) || n != (api.Meter{Cells: 60}) || err != api.ErrFuel {
				t.Errorf("Norm of %s with fuel %d: %s, %v, %d, want ErrFuel", s, fuel, show(u), n, err)
			}
		}
	}
}

// P15.1: what grows from part to part is ErrCells, or has no end but its fuel, and needs no stack.
func TestGrows(t *testing.T) {
	e := with(def("w", 0, `\a. !a. (w (suc #1))`), def("v", 1, `!a. v{Sp0}`), def("c", 0, `\a. \b. (#1 (c #0))`))
	for _, cells := range []int{20, 1000, api.MaxCells} {
		u, n, err := norm.Norm(e, of(`(w zero)`), api.Meter{Fuel: api.MaxFuel, Cells: cells})
		if !term.Equal(u, api.Term{}) || n.Fuel <= 0 || err != api.ErrCells {
			t.Errorf("what grows, with %d cells: %v, %d, want ErrCells", cells, n, err)
		}
	}
	if u, n, err := norm.Norm(e, of(`(w zero)`), api.Meter{Fuel: 1 << 20, Cells: math.MaxInt}); !term.Equal(u, api.Term{}) || n != (api.Meter{Cells: math.MaxInt}) || err != api.ErrFuel {
		t.Errorf("what grows: %v, %d, want ErrFuel", n, err)
	}
	if u, n, err := norm.Norm(e, of(`v{0}`), great); !term.Equal(u, api.Term{}) || n.Fuel != api.MaxFuel-31*3-2 || err != api.ErrCells {
		t.Errorf("Levels that grow: %v, %d, want ErrCells", great.Fuel-n.Fuel, err)
	}
}

// P15.1: a great number, by a recursor.
func TestGreatNumber(t *testing.T) {
	number := func(n int) api.Term {
		return around(con("zero"), n, func(t api.Term) api.Term { return app(con("suc"), t) })
	}
	u, n, err := norm.Norm(common(), app(con("plus"), number(700), number(1300)), great)
	if !term.Equal(u, number(2000)) || err != api.OK || great.Fuel-n.Fuel != 4+1300*(3+1)+1+700 {
		t.Errorf("700 and 1300: %d parts, %d steps, %d", term.Size(u, 10000), great.Fuel-n.Fuel, err)
	}
}

// P15.1: Levels that a definition's parameters make are told as they are.
func TestLevels(t *testing.T) {
	wide := maxOf(maxOf(param(0), succ(param(1))), maxOf(param(2), param(3)))
	e := with(api.Decl{Kind: api.DeclDef, Name: "d", Params: 1, Value: lam(sortOf(param(0)), app(con("c", succ(param(0)), param(1)), v(0)))})
	for _, x := range []api.Term{con("d", wide), lam(con("a"), app(con("d", wide), v(0)))} {
		if u, n, err := norm.Norm(e, x, much); !term.Equal(u, con("c", succ(wide), param(1))) || err != api.OK {
			t.Errorf("%s: %s, %v, %d", show(x), show(u), n, err)
		}
	}
	tall := param(0)
	for range api.MaxLevel - 1 {
		tall = succ(tall)
	}
	for by, want := range map[int]api.Errno{api.MaxLevel: api.ErrCells, api.MaxLevel - 1: api.OK} {
		l := param(3)
		for range by - 1 {
			l = succ(l)
		}
		u, _, err := norm.Norm(e, con("d", l), much)
		if err != want || err == api.OK && !term.Equal(u, con("c", succ(l), param(1))) {
			t.Errorf("with a Level %d deep: %s, %d, want %d", by, show(u), err, want)
		}
	}
	if u, _, err := norm.Norm(nil, sortOf(tall), much); !term.Equal(u, sortOf(tall)) || err != api.OK {
		t.Errorf("a Level as deep as may be: %s, %d", show(u), err)
	}
	if u, n, err := norm.Norm(nil, app(con("f"), sortOf(succ(tall))), much); !term.Equal(u, api.Term{}) || n.Fuel != much.Fuel-2 || err != api.ErrCells {
		t.Errorf("a deeper one: %s, %v, %d, want ErrCells", show(u), n, err)
	}
}
