package conv_test

import (
	"fmt"
	"math/rand"
	"slices"
	"testing"

	"touchstone/api"
	"touchstone/conv"
	"touchstone/env"
	"touchstone/level"
	"touchstone/meter"
	"touchstone/term"
	"touchstone/text"
	"touchstone/whnf"
)

// of: the term that a text says.
func of(s string) api.Term {
	t, place, err := text.Parse(s)
	if err != api.OK {
		panic(fmt.Sprintf("%q goes wrong at %d: %d", s, place, err))
	}
	return t
}

// show: a term's text, or what it has instead.
func show(t api.Term) string {
	if s := text.Show(t); s != "" {
		return s
	}
	if n := term.Size(t, 1000); n > 300 {
		return fmt.Sprintf("a term of %d parts or more", n)
	}
	return fmt.Sprintf("%+v", t)
}

func v(n int) api.Term { return api.Term{Kind: api.TermVar, N: n} }

func con(name string, levels ...api.Level) api.Term {
	return api.Term{Kind: api.TermConst, Name: name, Levels: levels}
}

func sortOf(l api.Level) api.Term { return api.Term{Kind: api.TermSort, Levels: []api.Level{l}} }

func node(kind int, args ...api.Term) api.Term { return api.Term{Kind: kind, Args: args} }

func app(f api.Term, args ...api.Term) api.Term {
	for _, a := range args {
		f = node(api.TermApp, f, a)
	}
	return f
}

func lam(a, b api.Term) api.Term { return node(api.TermLam, a, b) }

func pi(a, b api.Term) api.Term { return node(api.TermPi, a, b) }

func let(a, b, c api.Term) api.Term { return node(api.TermLet, a, b, c) }

func param(n int) api.Level { return api.Level{Kind: api.LevelParam, N: n} }

func succ(l api.Level) api.Level { return api.Level{Kind: api.LevelSucc, Args: []api.Level{l}} }

func maxOf(a, b api.Level) api.Level {
	return api.Level{Kind: api.LevelMax, Args: []api.Level{a, b}}
}

func def(name string, params int, value string) api.Decl {
	return api.Decl{Kind: api.DeclDef, Name: name, Params: params, Type: of("*0"), Value: of(value)}
}

func family(name string, count int, typ string, ctors ...string) api.Decl {
	d := api.Decl{Kind: api.DeclFamily, Name: name, Count: count, Type: of(typ)}
	for i := 0; i < len(ctors); i += 2 {
		d.Ctors = append(d.Ctors, api.Ctor{Name: ctors[i], Type: of(ctors[i+1])})
	}
	return d
}

func rec(name string, params int, family string) api.Decl {
	return api.Decl{Kind: api.DeclRec, Name: name, Params: params, Family: family, Type: of("*0")}
}

// with: an environment of l.
func with(l ...api.Decl) *env.Env {
	e := env.New()
	if err := e.Add(l...); err != api.OK {
		panic(err)
	}
	return e
}

// common: families, their recursors, definitions with an end and without.
func common() *env.Env {
	return with(
		family("Empty", 0, "*0"), rec("Empty.rec", 1, "Empty"),
		family("Nat", 0, "*S0", "zero", "Nat", "suc", "!Nat. Nat"), rec("Nat.rec", 1, "Nat"),
		family("Eq", 2, "!*p0. !#0. !#1. *0", "refl", "!*p0. !#0. (((Eq{p0} #1) #0) #0)"), rec("Eq.rec", 2, "Eq"),
		def("id", 1, "\\*p0. \\#0. #0"), def("two", 0, "(suc (suc zero))"), def("sorts", 2, "\\*p0. \\*p1. (f *Mp0Sp1)"),
		def("plus", 0, "\\Nat. \\Nat. ((((Nat.rec{S0} \\Nat. Nat) #1) \\Nat. \\Nat. (suc #0)) #0)"),
		def("i", 0, "\\a. #0"), def("g", 0, "f"), def("eta", 0, "\\a. (f #0)"),
		def("o", 0, "#0"), def("open", 0, "(#1 \\a. (#3 #0))"), def("fo", 1, "\\a. ((f #0) #1)"), family("Odd", 0, "*0", "odd", "!!#0. !#2. Odd. Odd"), rec("Odd.rec", 0, "Odd"),
		def("loop", 0, "loop"), def("lams", 0, "\\a. lams"), def("pis", 0, "!pis. b"), def("lamsof", 1, "\\*p0. (lamsof{p0} #0)"),
		api.Decl{Kind: api.DeclAxiom, Name: "a", Type: of("*0")}, api.Decl{Kind: api.DeclAxiom, Name: "f", Type: of("*0")},
	)
}

// model: the chapter's calls, as it says them, by those of the layers beneath.
type model struct{ env *env.Env }

func sameLevels(a, b []api.Level) bool { return slices.EqualFunc(a, b, level.Same) }

func alike(a, b api.Term) bool {
	return a.Kind == b.Kind && a.N == b.N && a.Name == b.Name && sameLevels(a.Levels, b.Levels) && slices.EqualFunc(a.Args, b.Args, alike)
}

func (o model) conv(a, b api.Term, m api.Meter) (bool, api.Meter, api.Errno) {
	m, err := meter.Step(m)
	if err != api.OK {
		return false, m, err
	}
	if alike(a, b) {
		return true, m, api.OK
	}
	x, m, err := whnf.Whnf(o.env, a, m)
	if err != api.OK {
		return false, m, err
	}
	y, m, err := whnf.Whnf(o.env, b, m)
	if err != api.OK {
		return false, m, err
	}
	if alike(x, y) {
		return true, m, api.OK
	}
	under := func(t api.Term) api.Term { return app(term.Lift(t, 1, 0), v(0)) }
	isLam := func(t api.Term) bool { return t.Kind == api.TermLam }
	switch {
	case x.Kind == y.Kind && (x.Kind == api.TermPi || isLam(x)):
		return o.all(x.Args, y.Args, m)
	case isLam(x):
		return o.conv(x.Args[1], under(y), m)
	case isLam(y):
		return o.conv(under(x), y.Args[1], m)
	}
	h, args := term.Spine(x)
	g, brgs := term.Spine(y)
	one := h.Kind == g.Kind && (h.Kind == api.TermVar && h.N == g.N || h.Kind == api.TermConst && h.Name == g.Name && sameLevels(h.Levels, g.Levels))
	if !one || len(args) != len(brgs) || len(args) == 0 {
		return false, m, api.OK
	}
	return o.all(args, brgs, m)
}

// all: of pairs, as long as it is yes.
func (o model) all(a, b []api.Term, m api.Meter) (is bool, n api.Meter, err api.Errno) {
	is, n = true, m
	for i := range a {
		if is && err == api.OK {
			is, n, err = o.conv(a[i], b[i], n)
		}
	}
	return is, n, err
}

// hold: holds Conv against the model.
func hold(t *testing.T, e *env.Env, a, b api.Term, m api.Meter) (is bool, n api.Meter, err api.Errno) {
	t.Helper()
	is, n, err = conv.Conv(e, a, b, m)
	wantIs, wantN, wantErr := model{e}.conv(a, b, m)
	if is != wantIs || n != wantN || err != wantErr {
		t.Fatalf("Conv of %s, %s with %v: %v, %v, %d, want %v, %v, %d", show(a), show(b), m, is, n, err, wantIs, wantN, wantErr)
	}
	return is, n, err
}

// maker: makes terms by chance.
type maker struct {
	*rand.Rand
	env *env.Env
}

func makerOf(seed int64) maker { return maker{rand.New(rand.NewSource(seed)), common()} }

func (k maker) level() api.Level {
	switch k.Intn(6) {
	case 0:
		return succ(k.level())
	case 1:
		return maxOf(k.level(), k.level())
	case 2:
		return api.Level{Kind: api.LevelImax, Args: []api.Level{k.level(), k.level()}}
	case 3:
		return api.Level{}
	}
	return param(k.Intn(3))
}

// con: of the common environment, or beside it, most often with as many Levels as there are parameters.
func (k maker) con() api.Term {
	all := [...]struct {
		name   string
		levels int
	}{{"a", 0}, {"f", 0}, {"c", 1}, {"zero", 0}, {"suc", 0}, {"Nat", 0}, {"two", 0}, {"id", 1}, {"sorts", 2}, {"plus", 0}, {"i", 0}, {"g", 0}, {"eta", 0},
		{"Nat.rec", 1}, {"Empty.rec", 1}, {"Eq.rec", 2}, {"refl", 1}, {"loop", 0}, {"lams", 0}, {"pis", 0}, {"lamsof", 1}, {"i", 0}, {"g", 0}, {"eta", 0},
		{"o", 0}, {"open", 0}, {"fo", 1}, {"Odd.rec", 0}, {"odd", 0}}
	x := all[k.Intn(len(all))]
	if k.Intn(20) == 0 {
		x.levels = k.Intn(3)
	}
	t := con(x.name)
	for range x.levels {
		t.Levels = append(t.Levels, k.level())
	}
	return t
}

// term: with free variables below vars, and some beyond.
func (k maker) term(deep, vars int) api.Term {
	if deep <= 0 {
		switch k.Intn(5) {
		case 0:
			return sortOf(k.level())
		case 1, 2:
			return k.con()
		}
		return v(k.Intn(vars + 2))
	}
	switch k.Intn(10) {
	case 0:
		return pi(k.term(deep-2, vars), k.term(deep-1, vars+1))
	case 1, 2:
		return lam(k.term(deep-2, vars), k.term(deep-1, vars+1))
	case 3:
		return let(k.term(deep-2, vars), k.term(deep-1, vars), k.term(deep-1, vars+1))
	case 4:
		return app(lam(k.term(deep-2, vars), k.term(deep-1, vars+1)), k.term(deep-1, vars))
	case 5:
		return app(con("Nat.rec", k.level()), k.term(deep-2, vars), k.term(deep-2, vars), k.term(deep-2, vars), k.term(deep-1, vars))
	case 6:
		return app(con("suc"), k.term(deep-1, vars))
	}
	return app(k.term(deep-1, vars), k.term(deep-1, vars))
}

// twist: another term, most often one that means the same.
func (k maker) twist(t api.Term, often int) api.Term {
	out := api.Term{Kind: t.Kind, N: t.N, Name: t.Name}
	for _, l := range t.Levels {
		out.Levels = append(out.Levels, k.twistLevel(l, often))
	}
	for _, a := range t.Args {
		out.Args = append(out.Args, k.twist(a, often))
	}
	if k.Intn(often) > 0 {
		return out
	}
	switch k.Intn(9) {
	case 0:
		return app(con("i"), out)
	case 1:
		return lam(con("a"), app(term.Lift(out, 1, 0), v(0)))
	case 2:
		return app(lam(k.term(1, 2), term.Lift(out, 1, 0)), k.term(1, 2))
	case 3:
		return let(k.term(1, 2), out, v(0))
	case 4:
		return app(lam(con("a"), v(0)), out)
	case 5:
		u, _, n, err := whnf.Once(k.env, t, api.Meter{Fuel: 9, Cells: 300})
		if n.Fuel < 9 && err == api.OK {
			return u
		}
	case 6:
		return app(con("Nat.rec", k.level()), con("f"), out, con("b"), con("zero"))
	case 7:
		if k.Intn(3) == 0 {
			return k.term(2, 2)
		}
	case 8:
		return app(lam(con("a"), lam(con("a"), v(1))), out, k.term(1, 2))
	}
	return out
}

func (k maker) twistLevel(l api.Level, often int) api.Level {
	switch k.Intn(often * 4) {
	case 0:
		return maxOf(l, api.Level{})
	case 1:
		return maxOf(l, l)
	case 2:
		return api.Level{Kind: api.LevelImax, Args: []api.Level{l, l}}
	case 3:
		if k.Intn(6) == 0 {
			return k.level()
		}
	}
	return l
}

func (k maker) meter() api.Meter {
	m := api.Meter{Fuel: 400, Cells: 3000}
	switch k.Intn(4) {
	case 0:
		m.Fuel = k.Intn(30)
	case 1:
		m.Cells = k.Intn(60)
	}
	return m
}

// pair: two terms that may mean the same.
func (k maker) pair() (a, b api.Term) {
	a = k.term(1+k.Intn(6), 2)
	if k.Intn(10) == 0 {
		return a, k.term(1+k.Intn(4), 2)
	}
	return k.twist(a, 12), k.twist(a, 12)
}

// P14.1, P14.2: of drawn terms, the calls tell what the chapter's words say, down to what is left of the fuel.
func TestAgainstModel(t *testing.T) {
	e := common()
	k := makerOf(14)
	told := map[string]int{}
	for range 20000 {
		a, b := k.pair()
		m := k.meter()
		is, n, err := hold(t, e, a, b, m)
		if got, want := conv.Alike(a, b), alike(a, b); got != want {
			t.Fatalf("Alike of %s, %s: %v, want %v", show(a), show(b), got, want)
		}
		told[fmt.Sprint(is, err)]++
		if m.Fuel-n.Fuel > 5 && is {
			told["long ones"]++
		}
		if alike(a, b) && !term.Equal(a, b) {
			told["alike by Levels"]++
		}
	}

	for what, least := range map[string]int{"true 0": 5000, "false 0": 2000, "false 11": 1000, "false 12": 500, "long ones": 3000, "alike by Levels": 200} {
		if told[what] < least {
			t.Errorf("the terms are too tame: %v", told)
			break
		}
	}
}

// What follows: Conv of a and a is yes, with one step.
func TestOneTermDrawn(t *testing.T) {
	e := common()
	k := makerOf(15)
	for range 3000 {
		a := k.term(1+k.Intn(7), 2)
		m := k.meter()
		m.Fuel = max(m.Fuel, 1)
		if is, n, err := conv.Conv(e, a, a, m); !is || n != (api.Meter{Fuel: m.Fuel - 1, Cells: m.Cells}) || err != api.OK {
			t.Fatalf("Conv of %s and itself: %v, %v, %d", show(a), is, n, err)
		}
		if !conv.Alike(a, a) {
			t.Fatalf("%s is not Alike to itself", show(a))
		}
	}
}

// What follows: whatever Conv says, it says with more fuel and cells, and takes as much for it.
func TestMoreNeverTurns(t *testing.T) {
	e := common()
	k := makerOf(16)
	for range 3000 {
		a, b := k.pair()
		m := k.meter()
		is, n, err := conv.Conv(e, a, b, m)
		if err != api.OK {
			continue
		}
		more := api.Meter{Fuel: m.Fuel + k.Intn(50), Cells: m.Cells + k.Intn(3000)}
		is2, n2, err := conv.Conv(e, a, b, more)
		if is2 != is || more.Fuel-n2.Fuel != m.Fuel-n.Fuel || n2.Cells != more.Cells || err != api.OK {
			t.Fatalf("Conv of %s, %s with %v: %v, %v, but with %v: %v, %v, %d", show(a), show(b), m, is, n, more, is2, n2, err)
		}
	}
}

// P14.2: with less fuel than was taken it is ErrFuel, and none is left.
func TestLessFuel(t *testing.T) {
	e := common()
	k := makerOf(17)
	for range 2000 {
		a, b := k.pair()
		_, n, err := conv.Conv(e, a, b, api.Meter{Fuel: 60, Cells: 1000})
		if err != api.OK {
			continue
		}
		for fuel := range 60 - n.Fuel {
			if is, n, err := conv.Conv(e, a, b, api.Meter{Fuel: fuel, Cells: 1000}); is || n != (api.Meter{Cells: 1000}) || err != api.ErrFuel {
				t.Fatalf("Conv of %s, %s with fuel %d: %v, %v, %d, want ErrFuel", show(a), show(b), fuel, is, n, err)
			}
		}
	}
}

// doubling: a term that has the variable 0 several times, below no or several binders.
func (k maker) doubling() api.Term {
	switch k.Intn(5) {
	case 0:
		return app(v(0), v(0))
	case 1:
		return app(con("f"), v(0), lam(con("a"), app(v(0), v(1))))
	case 2:
		return app(con("f"), lam(v(0), app(v(1), v(0), v(1))))
	case 3:
		return pi(v(0), lam(con("a"), app(v(2), v(2))))
	}
	return app(con("f"), k.term(2, 2), v(0), v(0))
}

// P14.2: of terms that are great on the way, and share their parts, in one way or another, Conv tells what the chapter's
// words say.
func TestSharedAgainstModel(t *testing.T) {
	e := common()
	k := makerOf(18)
	told := map[string]int{}
	for range 6000 {
		x := k.term(1+k.Intn(2), 3)
		y := k.twist(x, 15)
		for range 3 + k.Intn(5) {
			d := k.doubling()
			x, y = app(lam(k.term(1, 2), x), d), app(lam(k.term(1, 2), y), k.twist(d, 25))
		}
		end := k.term(2, 2)
		x, y = app(lam(con("a"), x), end), app(lam(con("a"), y), k.twist(end, 15))
		if k.Intn(2) == 0 { // one is written out
			if u, _, err := whnf.Whnf(e, y, api.Meter{Fuel: 100, Cells: 3000}); err == api.OK {
				y = u
			}
		}
		m := api.Meter{Fuel: 300, Cells: 3000}
		is, n, err := hold(t, e, x, y, m)
		told[fmt.Sprint(is, err)]++
		if m.Fuel-n.Fuel > 50 && is {
			told["long ones"]++
		}
	}
	for what, least := range map[string]int{"true 0": 1000, "false 0": 200, "long ones": 100} {
		if told[what] < least {
			t.Errorf("the terms are too tame: %v", told)
			break
		}
	}
}
