package whnf_test

import (
	"fmt"
	"math/rand"
	"slices"
	"testing"

	"touchstone/api"
	"touchstone/env"
	"touchstone/meter"
	"touchstone/term"
	"touchstone/text"
	"touchstone/whnf"
)

// of: the term that a text says.
func of(s string) api.Term {
	t, place, err := text.Parse(s)
	if err != api.OK {
		panic(fmt.Sprintf("%q goes wrong at %d: %d", s, place, err))
	}
	return t
}

func v(n int) api.Term { return api.Term{Kind: api.TermVar, N: n} }

func con(name string, levels ...api.Level) api.Term {
	return api.Term{Kind: api.TermConst, Name: name, Levels: levels}
}

func sortOf(l api.Level) api.Term { return api.Term{Kind: api.TermSort, Levels: []api.Level{l}} }

func node(kind int, args ...api.Term) api.Term { return api.Term{Kind: kind, Args: args} }

func app(f api.Term, args ...api.Term) api.Term {
	for _, a := range args {
		f = node(api.TermApp, f, a)
	}
	return f
}

func lam(a, b api.Term) api.Term { return node(api.TermLam, a, b) }

func pi(a, b api.Term) api.Term { return node(api.TermPi, a, b) }

func let(a, b, c api.Term) api.Term { return node(api.TermLet, a, b, c) }

func param(n int) api.Level { return api.Level{Kind: api.LevelParam, N: n} }

func succ(l api.Level) api.Level { return api.Level{Kind: api.LevelSucc, Args: []api.Level{l}} }

func maxOf(a, b api.Level) api.Level {
	return api.Level{Kind: api.LevelMax, Args: []api.Level{a, b}}
}

func def(name string, params int, value string) api.Decl {
	return api.Decl{Kind: api.DeclDef, Name: name, Params: params, Type: of("*0"), Value: of(value)}
}

func axiom(name string) api.Decl {
	return api.Decl{Kind: api.DeclAxiom, Name: name, Type: of("*0")}
}

// family: with its Type, and names and Types of constructors.
func family(name string, count int, typ string, ctors ...string) api.Decl {
	d := api.Decl{Kind: api.DeclFamily, Name: name, Count: count, Type: of(typ)}
	for i := 0; i < len(ctors); i += 2 {
		d.Ctors = append(d.Ctors, api.Ctor{Name: ctors[i], Type: of(ctors[i+1])})
	}
	return d
}

func rec(name string, params int, family string) api.Decl {
	return api.Decl{Kind: api.DeclRec, Name: name, Params: params, Family: family, Type: of("*0")}
}

// with: an environment of l.
func with(l ...api.Decl) *env.Env {
	e := env.New()
	if err := e.Add(l...); err != api.OK {
		panic(err)
	}
	return e
}

// common: families of all makes, with their recursors, definitions and axioms.
func common() *env.Env {
	return with(
		family("Empty", 0, "*0"), rec("Empty.rec", 1, "Empty"),
		family("Nat", 0, "*S0", "zero", "Nat", "suc", "!Nat. Nat"), rec("Nat.rec", 1, "Nat"),
		family("List", 1, "!*p0. *p0", "nil", "!*p0. (List{p0} #0)", "cons", "!*p0. !#0. !(List{p0} #1). (List{p0} #2)"), rec("List.rec", 2, "List"),
		family("Vec", 1, "!*p0. !Nat. *p0", "vnil", "!*p0. ((Vec{p0} #0) zero)",
			"vcons", "!*p0. !Nat. !#1. !((Vec{p0} #2) #1). ((Vec{p0} #3) (suc #2))"), rec("Vec.rec", 2, "Vec"),
		family("Tree", 0, "*S0", "leaf", "Tree", "tree", "!!Nat. Tree. Tree"), rec("Tree.rec", 1, "Tree"),
		family("Acc", 2, "!*p0. !!#0. !#1. *0. !#1. *0",
			"acc", "!*p0. !!#0. !#1. *0. !#1. !!#2. !((#2 #0) #1). (((Acc{p0} #4) #3) #1). (((Acc{p0} #3) #2) #1)"), rec("Acc.rec", 2, "Acc"),
		family("Eq", 2, "!*p0. !#0. !#1. *0", "refl", "!*p0. !#0. (((Eq{p0} #1) #0) #0)"), rec("Eq.rec", 2, "Eq"),
		def("id", 1, "\\*p0. \\#0. #0"), def("two", 0, "(suc (suc zero))"), def("loop", 0, "loop"),
		def("sorts", 2, "\\*p0. \\*p1. (f *Mp0Sp1)"), def("open", 0, "(#2 \\a. (#3 #0))"),
		def("plus", 0, "\\Nat. \\Nat. ((((Nat.rec{S0} \\Nat. Nat) #1) \\Nat. \\Nat. (suc #0)) #0)"),
		def("grow", 1, "\\a. (grow{Sp0} (#0 #0))"), def("sink", 0, "((Empty.rec{0} C) sink)"),
		axiom("a"), axiom("b"), axiom("f"), axiom("C"),
		rec("lost.rec", 1, "lost"), rec("a.rec", 1, "a"), family("Few", 2, "!*0. *0", "few", "Few"), rec("Few.rec", 1, "Few"),
	)
}

// model: the chapter's calls, as it says them, by those of the layers beneath. It copies and counts at each step.
type model struct{ env *env.Env }

// recursor: of the chapter's words: the family of a recursor, and its i.
func (o model) recursor(h api.Term) (f api.Decl, i int, ok bool) {
	d, _ := o.env.Find(h.Name)
	if h.Kind != api.TermConst || d.Kind != api.DeclRec || len(h.Levels) != d.Params {
		return f, 0, false
	}
	f, _ = o.env.Find(d.Family)
	i = len(pis(f.Type)) - f.Count
	return f, i, f.Kind == api.DeclFamily && i >= 0
}

// pis: the Args[0] of all Pis that t begins with.
func pis(t api.Term) (l []api.Term) {
	for ; t.Kind == api.TermPi; t = t.Args[1] {
		l = append(l, t.Args[0])
	}
	return l
}

// behind: what stands behind all Pis that t begins with.
func behind(t api.Term) api.Term {
	for t.Kind == api.TermPi {
		t = t.Args[1]
	}
	return t
}

func (o model) iota(t, major api.Term) (api.Term, bool) {
	r, args := term.Spine(t)
	f, i, ok := o.recursor(r)
	p, c := f.Count, len(f.Ctors)
	if !ok || len(args) <= p+1+c+i {
		return api.Term{}, false
	}
	h, given := term.Spine(major)
	k := slices.IndexFunc(f.Ctors, func(x api.Ctor) bool { return x.Name == h.Name })
	if h.Kind != api.TermConst || k < 0 {
		return api.Term{}, false
	}
	typ := f.Ctors[k].Type
	fields := max(len(pis(typ))-p, 0)
	if len(given) != p+fields {
		return api.Term{}, false
	}
	out := term.Apply(args[p+1+k], given[p:])
	rest := term.Levels(typ, r.Levels)
	for n := range p + fields {
		if n < p && rest.Kind == api.TermPi {
			rest = term.Put(rest.Args[1], args[n])
		}
		if n < p {
			continue
		}
		h, _ := term.Spine(behind(pis(typ)[n]))
		if h.Kind == api.TermConst && h.Name == f.Name {
			out = term.Apply(out, []api.Term{hypothesis(rest.Args[0], given[n], term.Apply(r, args[:p+1+c]), p)})
		}
		rest = term.Put(rest.Args[1], given[n])
	}
	return term.Apply(out, args[p+1+c+i+1:]), true
}

// hypothesis: of a field b of that type, with the recursor and its first arguments.
func hypothesis(typ, b, r api.Term, p int) api.Term {
	xs := pis(typ)
	n := len(xs)
	_, js := term.Spine(behind(typ))
	body := term.Apply(term.Lift(r, n, 0), js[min(p, len(js)):])
	b = term.Lift(b, n, 0)
	for i := range n {
		b = app(b, v(n-1-i))
	}
	body = app(body, b)
	for _, x := range slices.Backward(xs) {
		body = lam(x, body)
	}
	return body
}

func (o model) once(t api.Term, m api.Meter) (u api.Term, did bool, n api.Meter, err api.Errno) {
	h, args := term.Spine(t)
	d, _ := o.env.Find(h.Name)
	var make func() api.Term
	switch {
	case h.Kind == api.TermLam && len(args) > 0:
		make = func() api.Term { return term.Apply(term.Put(h.Args[1], args[0]), args[1:]) }
	case h.Kind == api.TermLet:
		make = func() api.Term { return term.Apply(term.Put(h.Args[2], h.Args[1]), args) }
	case h.Kind == api.TermConst && d.Kind == api.DeclDef && len(h.Levels) == d.Params:
		make = func() api.Term { return term.Apply(term.Levels(d.Value, h.Levels), args) }
	default:
		f, i, ok := o.recursor(h)
		place := f.Count + 1 + len(f.Ctors) + i
		if !ok || place >= len(args) {
			return t, false, m, api.OK
		}
		var major api.Term
		if major, m, err = o.whnf(args[place], m); err != api.OK {
			return api.Term{}, false, m, err
		}
		made, did := o.iota(t, major)
		if !did {
			return t, false, m, api.OK
		}
		make = func() api.Term { return made }
	}
	if m, err = meter.Step(m); err != api.OK {
		return api.Term{}, false, m, err
	}
	if u = make(); meter.Fits(m, u) != api.OK {
		return api.Term{}, false, m, api.ErrCells
	}
	return u, true, m, api.OK
}

func (o model) whnf(t api.Term, m api.Meter) (api.Term, api.Meter, api.Errno) {
	for {
		u, did, n, err := o.once(t, m)
		if err != api.OK {
			return api.Term{}, n, err
		}
		if !did {
			return u, n, api.OK
		}
		t, m = u, n
	}
}

// show: a term's text, or what it has instead.
func show(t api.Term) string {
	if s := text.Show(t); s != "" {
		return s
	}
	if term.Size(t, 300) > 300 {
		return fmt.Sprintf("a term of %d parts", term.Size(t, 1<<20))
	}
	return fmt.Sprintf("%+v", t)
}

// holdOnce: holds Once against the model.
func holdOnce(t *testing.T, e *env.Env, x api.Term, m api.Meter) {
	t.Helper()
	u, did, n, err := whnf.Once(e, x, m)
	wantU, wantDid, wantN, wantErr := model{e}.once(x, m)
	if !term.Equal(u, wantU) || did != wantDid || n != wantN || err != wantErr {
		t.Fatalf("Once of %s with %v: %s, %v, %v, %d, want %s, %v, %v, %d",
			show(x), m, show(u), did, n, err, show(wantU), wantDid, wantN, wantErr)
	}
}

// holdWhnf: holds Whnf against the model.
func holdWhnf(t *testing.T, e *env.Env, x api.Term, m api.Meter) {
	t.Helper()
	u, n, err := whnf.Whnf(e, x, m)
	wantU, wantN, wantErr := model{e}.whnf(x, m)
	if !term.Equal(u, wantU) || n != wantN || err != wantErr {
		t.Fatalf("Whnf of %s with %v: %s, %v, %d, want %s, %v, %d", show(x), m, show(u), n, err, show(wantU), wantN, wantErr)
	}
}

// holdIota: holds Iota against the model.
func holdIota(t *testing.T, e *env.Env, x, major api.Term) bool {
	t.Helper()
	u, did := whnf.Iota(e, x, major)
	wantU, wantDid := model{e}.iota(x, major)
	if !term.Equal(u, wantU) || did != wantDid {
		t.Fatalf("Iota of %s, %s: %s, %v, want %s, %v", show(x), show(major), show(u), did, show(wantU), wantDid)
	}
	return did
}

// maker: makes terms and declarations by chance.
type maker struct {
	*rand.Rand
	env *env.Env
	all []api.Decl
}

func (k maker) level() api.Level {
	switch k.Intn(6) {
	case 0:
		return succ(k.level())
	case 1:
		return maxOf(k.level(), k.level())
	case 2, 3:
		return param(k.Intn(3))
	}
	return api.Level{}
}

func (k maker) levels(count int) (l []api.Level) {
	for range count {
		l = append(l, k.level())
	}
	return l
}

// con: a Const, most often of the environment and with as many Levels as it has parameters.
func (k maker) con() api.Term {
	if len(k.all) == 0 {
		return con("a")
	}
	d := k.all[k.Intn(len(k.all))]
	count := d.Params
	if k.Intn(20) == 0 {
		count = k.Intn(4)
	}
	return con(d.Name, k.levels(count)...)
}

// term: with free variables below vars, and some beyond.
func (k maker) term(deep, vars int) api.Term {
	if deep <= 0 {
		switch k.Intn(6) {
		case 0:
			return sortOf(k.level())
		case 1, 2:
			return k.con()
		}
		return v(k.Intn(vars + 2))
	}
	switch k.Intn(12) {
	case 0:
		return pi(k.term(deep-2, vars), k.term(deep-1, vars+1))
	case 1, 2:
		return lam(k.term(deep-2, vars), k.term(deep-1, vars+1))
	case 3:
		return let(k.term(deep-2, vars), k.term(deep-1, vars), k.term(deep-1, vars+1))
	case 4, 5:
		return app(lam(k.term(deep-2, vars), k.term(deep-1, vars+1)), k.term(deep-1, vars))
	case 6, 7:
		return k.recursor(deep, vars)
	case 8:
		return k.ctor(deep, vars)
	case 9:
		return k.term(0, vars)
	}
	return app(k.term(deep-1, vars), k.term(deep-1, vars))
}

// pick: one of the declarations of that kind.
func (k maker) pick(kind int) (d api.Decl, ok bool) {
	for range 50 {
		if len(k.all) > 0 {
			if d = k.all[k.Intn(len(k.all))]; d.Kind == kind {
				return d, true
			}
		}
	}
	return d, false
}

// recursor: applied, most often as far as its major, or further.
func (k maker) recursor(deep, vars int) api.Term {
	d, ok := k.pick(api.DeclRec)
	if !ok {
		return k.con()
	}
	f, _ := k.env.Find(d.Family)
	x := con(d.Name, k.levels(d.Params)...)
	count := len(pis(f.Type)) + 1 + len(f.Ctors)
	for range count {
		x = app(x, k.term(deep-2, vars))
	}
	for k.Intn(8) > 0 {
		x = app(x, k.ctorOf(f, deep-1, vars))
		if k.Intn(3) > 0 {
			break
		}
	}
	return x
}

func (k maker) ctor(deep, vars int) api.Term {
	f, ok := k.pick(api.DeclFamily)
	if !ok {
		return k.con()
	}
	return k.ctorOf(f, deep, vars)
}

// ctorOf: a constructor of f, most often with all its arguments.
func (k maker) ctorOf(f api.Decl, deep, vars int) api.Term {
	if len(f.Ctors) == 0 || k.Intn(6) == 0 {
		return k.term(deep, vars)
	}
	c := f.Ctors[k.Intn(len(f.Ctors))]
	count := max(len(pis(c.Type)), f.Count)
	if k.Intn(20) == 0 {
		count += 1 - 2*k.Intn(2)
	}
	x := con(c.Name, k.levels(f.Params)...)
	for range count {
		x = app(x, k.term(deep-2, vars))
	}
	return x
}

// family: as wild as may be.
func (k maker) family(name string) api.Decl {
	d := api.Decl{Kind: api.DeclFamily, Name: name, Params: k.Intn(2), Count: k.Intn(3)}
	d.Type = k.term(0, 0)
	for range d.Count + k.Intn(3) - k.Intn(10)/9 {
		d.Type = pi(k.term(1, 3), d.Type)
	}
	for i := range k.Intn(4) {
		typ := app(con(name, k.levels(d.Params)...), k.term(0, 2))
		for range d.Count + k.Intn(4) - k.Intn(10)/9 {
			typ = pi(k.field(d), typ)
		}
		d.Ctors = append(d.Ctors, api.Ctor{Name: fmt.Sprintf("%s.c%d", name, i), Type: typ})
	}
	return d
}

// field: a type of one, often a recursive one.
func (k maker) field(d api.Decl) api.Term {
	if k.Intn(3) == 0 {
		return k.term(2, 4)
	}
	x := con(d.Name, k.levels(d.Params)...)
	for range k.Intn(d.Count + 3) {
		x = app(x, k.term(k.Intn(3), 5))
	}
	for range k.Intn(3) {
		x = pi(k.term(k.Intn(3), 4), x)
	}
	return x
}

// makerOf: of a seed, with an environment that is common or made by chance.
func makerOf(seed int64) maker {
	k := maker{Rand: rand.New(rand.NewSource(seed)), env: common()}
	if seed%2 == 1 {
		k.env = env.New()
		k.env.Add(axiom("a"), api.Decl{Kind: api.DeclDef, Name: "d", Params: 1, Value: k.term(4, 0)})
		for i := range 3 {
			name := fmt.Sprintf("F%d", i)
			k.all = k.env.All()
			f := k.family(name)
			k.env.Add(f, rec(name+".rec", f.Params+k.Intn(2), name))
			k.all = k.env.All()
			k.env.Add(api.Decl{Kind: api.DeclDef, Name: fmt.Sprintf("d%d", i), Params: k.Intn(3), Value: k.term(4, 1)})
		}
	}
	k.all = k.env.All()
	return k
}

// meters: many makes of them.
func (k maker) meter() api.Meter {
	m := api.Meter{Fuel: 300, Cells: 3000}
	switch k.Intn(4) {
	case 0:
		m.Fuel = k.Intn(6)
	case 1:
		m.Cells = k.Intn(60)
	}
	return m
}

// P13.1, P13.2, P13.3: of all makes of terms and environments, the calls tell what the chapter's words say.
func TestAgainstModel(t *testing.T) {
	var did, steps, errs int
	for seed := range int64(120) {
		k := makerOf(seed)
		for range 60 {
			x := k.term(2+k.Intn(6), 2)
			m := k.meter()
			holdOnce(t, k.env, x, m)
			holdWhnf(t, k.env, x, m)
			_, n, err := whnf.Whnf(k.env, x, m)
			steps += m.Fuel - n.Fuel
			if err != api.OK {
				errs++
			}
			if holdIota(t, k.env, k.recursor(4, 2), k.ctor(4, 2)) {
				did++
			}
		}
	}
	if did < 200 || steps < 4000 || errs < 400 {
		t.Errorf("the terms are too tame: Iota did %d times, %d steps, %d errors", did, steps, errs)
	}
}

// P13.3: recursors with a constructor of their own family.
func TestIotaAgainstModel(t *testing.T) {
	var did int
	for seed := range int64(250) {
		k := makerOf(seed)
		for range 30 {
			x := k.recursor(5, 3)
			h, args := term.Spine(x)
			d, _ := k.env.Find(h.Name)
			f, _ := k.env.Find(d.Family)
			if len(args) > 0 && k.Intn(4) == 0 {
				x = app(x, k.term(2, 3))
			}
			if holdIota(t, k.env, x, k.ctorOf(f, 5, 3)) {
				did++
			}
		}
	}
	if did < 2000 {
		t.Errorf("the terms are too tame: Iota did %d times", did)
	}
}

// P13.1, P13.2: what follows: more fuel, more cells, never turn an answer.
func TestMoreNeverTurns(t *testing.T) {
	for seed := range int64(200) {
		k := makerOf(seed)
		for range 20 {
			x := k.term(2+k.Intn(5), 2)
			m := k.meter()
			u, n, err := whnf.Whnf(k.env, x, m)
			more := api.Meter{Fuel: m.Fuel + k.Intn(50), Cells: m.Cells + k.Intn(500)}
			u2, n2, err2 := whnf.Whnf(k.env, x, more)
			if err == api.OK && (err2 != api.OK || !term.Equal(u, u2) || more.Fuel-n2.Fuel != m.Fuel-n.Fuel) {
				t.Fatalf("Whnf of %s: with %v %s, %v, %d, with %v %s, %v, %d", show(x), m, show(u), n, err, more, show(u2), n2, err2)
			}
		}
	}
}

// P13.1: what follows: what a step makes has no free variable that t has not (where declarations are closed).
func TestNoNewVariables(t *testing.T) {
	for seed := int64(0); seed < 400; seed += 2 {
		k := makerOf(seed)
		for range 30 {
			x := k.term(2+k.Intn(6), 3)
			if slices.Contains(term.Names(x), "open") {
				continue
			}
			u, _, err := whnf.Whnf(k.env, x, k.meter())
			for i := range 12 {
				if err == api.OK && term.Uses(u, i) && !term.Uses(x, i) {
					t.Fatalf("Whnf of %s: %s, which has the free variable %d", show(x), show(u), i)
				}
			}
		}
	}
}

// doubling: a term that has the variable 0 several times, below no or several binders.
func (k maker) doubling() api.Term {
	switch k.Intn(6) {
	case 0:
		return app(v(0), v(0))
	case 1:
		return app(con("f"), v(0), lam(con("a"), app(v(0), v(1))))
	case 2:
		return lam(v(0), app(v(1), v(0), v(1)))
	case 3:
		return pi(v(0), lam(con("a"), app(v(2), v(2))))
	case 4:
		return app(k.ctor(3, 2), v(0), v(0))
	}
	return app(k.term(3, 2), v(0), v(0))
}

// P13.2: of terms that are great on the way, and share their parts, Whnf tells what the chapter's words say.
func TestSharedAgainstModel(t *testing.T) {
	great, steps := 0, 0
	for seed := range int64(40) {
		k := makerOf(seed)
		for range 25 {
			x := k.term(3+k.Intn(4), 3)
			for range 3 + k.Intn(7) {
				x = app(lam(k.term(1, 2), x), k.doubling())
				if k.Intn(3) == 0 {
					x = app(x, k.term(2, 2))
				}
			}
			x = app(lam(con("a"), x), k.term(3, 2))
			m := api.Meter{Fuel: 60, Cells: 6000}
			holdWhnf(t, k.env, x, m)
			u, n, err := whnf.Whnf(k.env, x, m)
			if err == api.OK && term.Size(u, 1000) > 1000 {
				great++
			}
			steps += m.Fuel - n.Fuel
		}
	}
	if great < 60 || steps < 4000 {
		t.Errorf("the terms are too tame: %d steps, %d ends that are great", steps, great)
	}
}
