package norm_test

import (
	"fmt"
	"math/rand"
	"testing"

	"touchstone/api"
	"touchstone/env"
	"touchstone/meter"
	"touchstone/norm"
	"touchstone/term"
	"touchstone/text"
	"touchstone/whnf"
)

// of: the term that a text says.
func of(s string) api.Term {
	t, place, err := text.Parse(s)
	if err != api.OK {
		panic(fmt.Sprintf("%q goes wrong at %d: %d", s, place, err))
	}
	return t
}

// show: a term's text, or what it has instead.
func show(t api.Term) string {
	if s := text.Show(t); s != "" {
		return s
	}
	if n := term.Size(t, 1000); n > 300 {
		return fmt.Sprintf("a term of %d parts or more", n)
	}
	return fmt.Sprintf("%+v", t)
}

func v(n int) api.Term { return api.Term{Kind: api.TermVar, N: n} }

func con(name string, levels ...api.Level) api.Term {
	return api.Term{Kind: api.TermConst, Name: name, Levels: levels}
}

func sortOf(l api.Level) api.Term { return api.Term{Kind: api.TermSort, Levels: []api.Level{l}} }

func node(kind int, args ...api.Term) api.Term { return api.Term{Kind: kind, Args: args} }

func app(f api.Term, args ...api.Term) api.Term {
	for _, a := range args {
		f = node(api.TermApp, f, a)
	}
	return f
}

func lam(a, b api.Term) api.Term { return node(api.TermLam, a, b) }

func pi(a, b api.Term) api.Term { return node(api.TermPi, a, b) }

func let(a, b, c api.Term) api.Term { return node(api.TermLet, a, b, c) }

func param(n int) api.Level { return api.Level{Kind: api.LevelParam, N: n} }

func succ(l api.Level) api.Level { return api.Level{Kind: api.LevelSucc, Args: []api.Level{l}} }

func maxOf(a, b api.Level) api.Level {
	return api.Level{Kind: api.LevelMax, Args: []api.Level{a, b}}
}

func def(name string, params int, value string) api.Decl {
	return api.Decl{Kind: api.DeclDef, Name: name, Params: params, Type: of("*0"), Value: of(value)}
}

func family(name string, count int, typ string, ctors ...string) api.Decl {
	d := api.Decl{Kind: api.DeclFamily, Name: name, Count: count, Type: of(typ)}
	for i := 0; i < len(ctors); i += 2 {
		d.Ctors = append(d.Ctors, api.Ctor{Name: ctors[i], Type: of(ctors[i+1])})
	}
	return d
}

func rec(name string, params int, family string) api.Decl {
	return api.Decl{Kind: api.DeclRec, Name: name, Params: params, Family: family, Type: of("*0")}
}

// with: an environment of l.
func with(l ...api.Decl) *env.Env {
	e := env.New()
	if err := e.Add(l...); err != api.OK {
		panic(err)
	}
	return e
}

// common: families, their recursors, definitions with an end and without.
func common() *env.Env {
	return with(
		family("Empty", 0, "*0"), rec("Empty.rec", 1, "Empty"),
		family("Nat", 0, "*S0", "zero", "Nat", "suc", "!Nat. Nat"), rec("Nat.rec", 1, "Nat"),
		family("Eq", 2, "!*p0. !#0. !#1. *0", "refl", "!*p0. !#0. (((Eq{p0} #1) #0) #0)"), rec("Eq.rec", 2, "Eq"),
		family("Tree", 0, "*S0", "leaf", "Tree", "tree", "!!Nat. Tree. Tree"), rec("Tree.rec", 1, "Tree"),
		def("id", 1, "\\*p0. \\#0. #0"), def("two", 0, "(suc (suc zero))"), def("sorts", 2, "\\*p0. \\*p1. (f *Mp0Sp1)"),
		def("plus", 0, "\\Nat. \\Nat. ((((Nat.rec{S0} \\Nat. Nat) #1) \\Nat. \\Nat. (suc #0)) #0)"),
		def("i", 0, "\\a. #0"), def("g", 0, "f"), def("eta", 0, "\\a. (f #0)"), def("twice", 0, "\\a. ((f #0) #0)"),
		def("loop", 0, "loop"), def("lams", 0, "\\a. lams"), def("pis", 0, "!pis. b"), def("row", 0, "(f row)"), def("lamsof", 1, "\\*p0. (lamsof{p0} #0)"),
		def("grow", 0, "(f (grow grow))"), def("rise", 1, "!*p0. rise{Sp0}"),
		// Of some the values have free variables, which a step brings as they are.
		def("o", 0, "#0"), def("open", 0, "(#1 \\a. (#3 #0))"), def("fo", 1, "\\a. ((f #0) #1)"), family("Odd", 0, "*0", "odd", "!!#0. !#2. Odd. Odd"), rec("Odd.rec", 0, "Odd"),
		api.Decl{Kind: api.DeclAxiom, Name: "a", Type: of("*0")}, api.Decl{Kind: api.DeclAxiom, Name: "f", Type: of("*0")},
	)
}

// model: the chapter's call, as it says it, by those of the layers beneath.
type model struct{ env *env.Env }

func (o model) norm(t api.Term, m api.Meter) (u api.Term, n api.Meter, err api.Errno) {
	if m, err = meter.Step(m); err != api.OK {
		return api.Term{}, m, err
	}
	x, m, err := whnf.Whnf(o.env, t, m)
	if err != api.OK {
		return api.Term{}, m, err
	}
	head, parts := term.Spine(x)
	binds := x.Kind == api.TermLam || x.Kind == api.TermPi
	if binds {
		parts = x.Args
	}
	norms := make([]api.Term, len(parts))
	for i, p := range parts {
		if norms[i], m, err = o.norm(p, m); err != api.OK {
			return api.Term{}, m, err
		}
	}
	switch {
	case x.Kind == api.TermLam && norms[1].Kind == api.TermApp && term.Equal(norms[1].Args[1], v(0)) && !term.Uses(norms[1].Args[0], 0):
		u = term.Put(norms[1].Args[0], con("nothing"))
	case binds:
		u = node(x.Kind, norms...)
	default:
		u = term.Apply(head, norms)
	}
	if err = meter.Fits(m, u); err != api.OK {
		return api.Term{}, m, err
	}
	return u, m, api.OK
}

// hold: holds Norm against the model.
func hold(t *testing.T, e *env.Env, x api.Term, m api.Meter) (u api.Term, n api.Meter, err api.Errno) {
	t.Helper()
	u, n, err = norm.Norm(e, x, m)
	wantU, wantN, wantErr := model{e}.norm(x, m)
	if !term.Equal(u, wantU) || n != wantN || err != wantErr {
		t.Fatalf("Norm of %s with %v: %s, %v, %d, want %s, %v, %d", show(x), m, show(u), n, err, show(wantU), wantN, wantErr)
	}
	return u, n, err
}

// maker: makes terms by chance.
type maker struct{ *rand.Rand }

func makerOf(seed int64) maker { return maker{rand.New(rand.NewSource(seed))} }

func (k maker) level() api.Level {
	switch k.Intn(6) {
	case 0:
		return succ(k.level())
	case 1:
		return maxOf(k.level(), k.level())
	case 2:
		return api.Level{}
	}
	return param(k.Intn(3))
}

// con: of the common environment, or beside it, most often with as many Levels as there are parameters.
func (k maker) con() api.Term {
	all := [...]struct {
		name   string
		levels int
	}{{"a", 0}, {"f", 0}, {"c", 1}, {"zero", 0}, {"suc", 0}, {"Nat", 0}, {"two", 0}, {"id", 1}, {"sorts", 2}, {"plus", 0}, {"i", 0}, {"g", 0}, {"eta", 0}, {"twice", 0},
		{"Nat.rec", 1}, {"Empty.rec", 1}, {"Eq.rec", 2}, {"refl", 1}, {"Tree.rec", 1}, {"leaf", 0}, {"tree", 0}, {"i", 0}, {"g", 0}, {"eta", 0}, {"a", 0}, {"f", 0}, {"zero", 0}, {"o", 0}, {"open", 0}, {"fo", 1}, {"Odd.rec", 0}, {"odd", 0},
		{"loop", 0}, {"lams", 0}, {"pis", 0}, {"row", 0}, {"lamsof", 1}, {"grow", 0}, {"rise", 1}}
	count := len(all)
	if k.Intn(8) > 0 {
		count -= 7 // of those with an end
	}
	if count < len(all) && k.Intn(3) > 0 {
		count -= 5 // of those that are closed
	}
	x := all[k.Intn(count)]
	if k.Intn(20) == 0 {
		x.levels = k.Intn(3)
	}
	t := con(x.name)
	for range x.levels {
		t.Levels = append(t.Levels, k.level())
	}
	return t
}

// term: with free variables below vars, and some beyond.
func (k maker) term(deep, vars int) api.Term {
	if deep <= 0 {
		switch k.Intn(5) {
		case 0:
			return sortOf(k.level())
		case 1, 2:
			return k.con()
		}
		return v(k.Intn(vars + 2))
	}
	switch k.Intn(13) {
	case 0, 1:
		return pi(k.term(deep-2, vars), k.term(deep-1, vars+1))
	case 2, 3:
		return lam(k.term(deep-2, vars), k.term(deep-1, vars+1))
	case 4:
		return let(k.term(deep-2, vars), k.term(deep-1, vars), k.term(deep-1, vars+1))
	case 5:
		return app(lam(k.term(deep-2, vars), k.term(deep-1, vars+1)), k.term(deep-1, vars))
	case 6:
		return app(con("Nat.rec", k.level()), k.term(deep-2, vars), k.term(deep-2, vars), k.term(deep-2, vars), k.term(deep-1, vars))
	case 7:
		return app(con("suc"), k.term(deep-1, vars))
	case 8, 9:
		return k.function(deep, vars)
	case 10:
		return app(con("tree"), lam(con("Nat"), k.term(deep-1, vars+1)))
	case 11:
		if k.Intn(4) == 0 {
			return app(con("Odd.rec"), k.term(deep-2, vars), k.term(deep-2, vars), app(con("odd"), k.term(deep-1, vars)))
		}
	}
	return app(k.term(deep-1, vars), k.term(deep-1, vars))
}

// function: a Lam whose end is an App to its own variable, or comes to one, most often of what does not use that.
func (k maker) function(deep, vars int) api.Term {
	end := v(0)
	if k.Intn(3) == 0 {
		end = app(con("i"), end)
	}
	f := term.Lift(k.term(deep-1, vars), 1, 0)
	if k.Intn(5) == 0 {
		f = k.term(deep-1, vars+1)
	}
	if k.Intn(5) == 0 {
		return lam(k.term(deep-2, vars), app(lam(con("a"), app(term.Lift(f, 1, 0), v(0))), end))
	}
	return lam(k.term(deep-2, vars), app(f, end))
}

func (k maker) meter() api.Meter {
	m := api.Meter{Fuel: 400, Cells: 3000}
	switch k.Intn(4) {
	case 0:
		m.Fuel = k.Intn(40)
	case 1:
		m.Cells = k.Intn(60)
	}
	return m
}

// P15.1: of drawn terms, Norm tells what the chapter's words say, down to what is left of the fuel.
func TestAgainstModel(t *testing.T) {
	e := common()
	k := makerOf(15)
	told := map[string]int{}
	for range 30000 {
		x := k.term(1+k.Intn(7), 2)
		m := k.meter()
		u, n, err := hold(t, e, x, m)
		told[fmt.Sprint(err)]++
		if m.Fuel-n.Fuel > 20 && err == api.OK {
			told["long ones"]++
		}
		if err == api.OK && x.Kind == api.TermLam && u.Kind != api.TermLam {
			told["functions alone"]++
		}
	}
	for what, least := range map[string]int{"0": 15000, "11": 2000, "12": 1000, "long ones": 3000, "functions alone": 1000} {
		if told[what] < least {
			t.Errorf("the terms are too tame: %v", told)
			break
		}
	}
}

// P15.1: of terms that share their parts on the way, also below more and more binders, it is the same.
func TestSharedAgainstModel(t *testing.T) {
	e := common()
	k := makerOf(16)
	long := 0
	for range 1500 {
		x := k.term(2+k.Intn(3), 3)
		for range 2 + k.Intn(6) {
			x = app(lam(k.term(1, 2), x), k.doubling())
		}
		m := api.Meter{Fuel: 4000, Cells: 20000}
		if _, n, err := hold(t, e, app(lam(con("a"), x), k.term(2, 2)), m); err == api.OK && m.Fuel-n.Fuel > 300 {
			long++
		}
	}
	if long < 100 {
		t.Errorf("the terms are too tame: %d long ones", long)
	}
}

// doubling: a term that has the variable 0 several times, below no or several binders.
func (k maker) doubling() api.Term {
	switch k.Intn(5) {
	case 0:
		return app(v(0), v(0))
	case 1:
		return app(con("f"), v(0), lam(con("a"), app(v(0), v(1))))
	case 2:
		return app(con("f"), lam(v(0), app(v(1), v(0))), v(0))
	case 3:
		return pi(v(0), lam(con("a"), app(con("i"), v(2))))
	}
	return app(con("f"), k.term(2, 2), v(0), v(0))
}

// What follows: more fuel and more cells turn no answer, and it takes as much for it.
func TestMoreNeverTurns(t *testing.T) {
	e := common()
	k := makerOf(17)
	for range 5000 {
		x := k.term(1+k.Intn(6), 2)
		m := k.meter()
		u, n, err := norm.Norm(e, x, m)
		if err != api.OK {
			continue
		}
		more := api.Meter{Fuel: m.Fuel + k.Intn(50), Cells: m.Cells + k.Intn(3000)}
		u2, n2, err := norm.Norm(e, x, more)
		if !term.Equal(u, u2) || more.Fuel-n2.Fuel != m.Fuel-n.Fuel || n2.Cells != more.Cells || err != api.OK {
			t.Fatalf("Norm of %s with %v: %s, %v, but with %v: %s, %v, %d", show(x), m, show(u), n, more, show(u2), n2, err)
		}
	}
}

// P15.1: with less fuel than was taken it is ErrFuel, and none is left; with less cells than were needed it is ErrCells.
func TestLess(t *testing.T) {
	e := common()
	k := makerOf(18)
	for range 3000 {
		x := k.term(1+k.Intn(6), 2)
		u, n, err := norm.Norm(e, x, api.Meter{Fuel: 60, Cells: 1000})
		if err != api.OK {
			continue
		}
		for fuel := range 60 - n.Fuel {
			if u, n, err := norm.Norm(e, x, api.Meter{Fuel: fuel, Cells: 1000}); !term.Equal(u, api.Term{}) || n != (api.Meter{Cells: 1000}) || err != api.ErrFuel {
				t.Fatalf("Norm of %s with fuel %d: %s, %v, %d, want ErrFuel", show(x), fuel, show(u), n, err)
			}
		}
		for _, cells := range []int{term.Size(u, 1000) - 1, 0, -1} {
			if u, n, err := norm.Norm(e, x, api.Meter{Fuel: 60, Cells: cells}); !term.Equal(u, api.Term{}) || n.Fuel >= 60 || n.Cells != cells || err != api.ErrCells {
				t.Fatalf("Norm of %s with %d cells: %s, %v, %d, want ErrCells", show(x), cells, show(u), n, err)
			}
		}
	}
}
