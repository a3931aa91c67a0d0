package whnf_test

import (
	"fmt"
	"testing"

	"touchstone/api"
	"touchstone/env"
	"touchstone/term"
	"touchstone/whnf"
)

// iota: a recursor's term, a major, and what Iota makes of them.
type iota struct{ t, major, want string }

var iotas = []iota{
	// Without parameters: each constructor, with its recursive field's hypothesis; what stands at t's major counts for nothing.
	{`((((Nat.rec{0} C) a) b) #9)`, `zero`, `a`},
	{`((((Nat.rec{0} C) a) b) zero)`, `(suc f)`, `((b f) ((((Nat.rec{0} C) a) b) f))`},
	{`((((Nat.rec{Sp1} \Nat. #3) #0) #1) loop)`, `(suc #4)`, `((#1 #4) ((((Nat.rec{Sp1} \Nat. #3) #0) #1) #4))`},
	// The case, and further arguments behind.
	{`((((((Nat.rec{0} C) a) b) #9) #1) f)`, `zero`, `((a #1) f)`},
	{`(((((Nat.rec{0} C) a) b) #9) #1)`, `(suc f)`, `(((b f) ((((Nat.rec{0} C) a) b) f)) #1)`},
	{`((((Nat.rec{0} C) (f a)) \a. \a. #1) #9)`, `zero`, `(f a)`},
	{`((((Nat.rec{0} C) a) \a. \a. #1) #9)`, `(suc zero)`, `((\a. \a. #1 zero) ((((Nat.rec{0} C) a) \a. \a. #1) zero))`},
	// A constructor's Levels are not asked.
	{`((((Nat.rec{0} C) a) b) #9)`, `zero{0,0}`, `a`},
	// With a parameter: t's, not the major's.
	{`(((((List.rec{0,p1} Nat) C) a) b) #9)`, `(nil{0} f)`, `a`},
	{`(((((List.rec{0,p1} Nat) C) a) b) #9)`, `(((cons{0} f) #1) #2)`, `(((b #1) #2) (((((List.rec{0,p1} Nat) C) a) b) #2))`},
	// With a parameter and an index: a hypothesis has its field's index.
	{`((((((Vec.rec{0,p1} Nat) C) a) b) #8) #9)`, `(vnil{0} f)`, `a`},
	{`((((((Vec.rec{0,p1} Nat) C) a) b) #8) #9)`, `((((vcons{0} f) #5) #6) #7)`, `((((b #5) #6) #7) ((((((Vec.rec{0,p1} Nat) C) a) b) #5) #7))`},
	{`(((((((Vec.rec{0,p1} Nat) C) a) b) #8) #9) #4)`, `(vnil{0} f)`, `(a #4)`},
	// A field below a Pi; what is put is lifted.
	{`((((Tree.rec{0} C) a) b) #9)`, `leaf`, `a`},
	{`((((Tree.rec{0} #1) #2) #3) #9)`, `(tree #4)`, `((#3 #4) \Nat. ((((Tree.rec{0} #2) #3) #4) (#5 #0)))`},
	{`((((Tree.rec{0} C) a) \a. \a. #7) #9)`, `(tree \Nat. #6)`,
		`((\a. \a. #7 \Nat. #6) \Nat. ((((Tree.rec{0} C) a) \a. \a. #8) (\Nat. #7 #0)))`},
	// Two parameters, an index that hangs on the Pis' variables, fields ahead, a Level.
	{`((((((Acc.rec{p2,0} #1) #2) #3) #4) #8) #9)`, `((((acc{0} f) f) #5) #6)`,
		`(((#4 #5) #6) \#1. \((#3 #0) #6). ((((((Acc.rec{p2,0} #3) #4) #5) #6) #1) ((#8 #1) #0)))`},
	// Without fields, with two parameters and an index.
	{`((((((Eq.rec{0,0} Nat) a) C) b) #8) #9)`, `((refl{0} f) f)`, `b`},
	{`(((((((Eq.rec{0,0} Nat) a) C) b) #8) #9) f)`, `((refl{0} f) f)`, `(b f)`},
}

// P13.3: families with and without parameters, indices, recursive fields, recursive fields below Pis, at each constructor.
func TestIota(t *testing.T) {
	e := common()
	for _, x := range iotas {
		if u, did := whnf.Iota(e, of(x.t), of(x.major)); !did || !term.Equal(u, of(x.want)) {
			t.Errorf("Iota of %s, %s: %s, %v, want %s", x.t, x.major, show(u), did, x.want)
		}
	}
}

// P13.1, P13.3: Once makes what Iota makes, of the major where it stands.
func TestOnceMakesIota(t *testing.T) {
	e := common()
	for _, x := range iotas {
		h, args := term.Spine(of(x.t))
		place := map[string]int{"Nat.rec": 3, "List.rec": 4, "Vec.rec": 5, "Tree.rec": 3, "Acc.rec": 5, "Eq.rec": 5}[h.Name]
		args[place] = of(x.major)
		if u, did, n, err := whnf.Once(e, term.Apply(h, args), much); !did || !term.Equal(u, of(x.want)) || n.Fuel != much.Fuel-1 || err != api.OK {
			t.Errorf("Once of %s with the major %s: %s, %v, %v, %d, want %s", x.t, x.major, show(u), did, n, err, x.want)
		}
		args[place] = app(lam(con("a"), v(0)), of(x.major))
		if u, did, n, err := whnf.Once(e, term.Apply(h, args), much); !did || !term.Equal(u, of(x.want)) || n.Fuel != much.Fuel-2 || err != api.OK {
			t.Errorf("Once of %s with a major that comes to %s: %s, %v, %v, %d, want %s", x.t, x.major, show(u), did, n, err, x.want)
		}
	}
}

// P13.3: what Iota does not do.
func TestIotaNot(t *testing.T) {
	e := common()
	const nat = `((((Nat.rec{0} C) a) b) #9)`
	for _, x := range []iota{
		{t: nat, major: `a`}, {t: nat, major: `#0`}, {t: nat, major: `*0`}, {t: nat, major: `two`}, {t: nat, major: `unknown`},
		{t: nat, major: `(\a. #0 zero)`}, {t: nat, major: `=a:a. zero`}, {t: nat, major: `\a. zero`}, {t: nat, major: `!a. zero`}, {t: nat, major: `Nat`}, {t: nat, major: `nil{0}`},
		{t: nat, major: `(zero a)`}, {t: nat, major: `suc`}, {t: nat, major: `((suc a) a)`}, {t: nat, major: `Nat.rec{0}`},
		{t: `(((Nat.rec{0} C) a) b)`, major: `zero`}, {t: `((Nat.rec{0} C) a)`, major: `zero`}, {t: `Nat.rec{0}`, major: `zero`},
		{t: `((((Nat.rec C) a) b) #9)`, major: `zero`}, {t: `((((Nat.rec{0,0} C) a) b) #9)`, major: `zero`},
		{t: `((((Nat C) a) b) #9)`, major: `zero`}, {t: `((((zero C) a) b) #9)`, major: `zero`}, {t: `((((#0 C) a) b) #9)`, major: `zero`}, {t: `((((\a. #0 C) a) b) #9)`, major: `zero`},
		{t: `((((unknown{0} C) a) b) #9)`, major: `zero`}, {t: `((((lost.rec{0} C) a) b) #9)`, major: `zero`}, {t: `((((a.rec{0} C) a) b) #9)`, major: `zero`},
		{t: `((((Few.rec{0} C) a) b) #9)`, major: `few`}, {t: `((((Few.rec{0} C) a) b) #9)`, major: `((few a) b)`},
		{t: `((Empty.rec{0} C) #9)`, major: `zero`},
		{t: `(((((List.rec{0,0} Nat) C) a) b) #9)`, major: `nil{0}`}, {t: `(((((List.rec{0,0} Nat) C) a) b) #9)`, major: `((nil{0} a) b)`},
		{t: `(((((List.rec{0,0} Nat) C) a) b) #9)`, major: `((cons{0} f) #1)`}, {t: `(((((List.rec{0,0} Nat) C) a) b) #9)`, major: `((((cons{0} f) #1) #2) #3)`},
		{t: `((((List.rec{0,0} Nat) C) a) b)`, major: `(nil{0} f)`}, {t: `(((((List.rec{0} Nat) C) a) b) #9)`, major: `(nil{0} f)`},
		{t: `(((((Vec.rec{0,0} Nat) C) a) b) #8)`, major: `(vnil{0} f)`},
	} {
		if u, did := whnf.Iota(e, of(x.t), of(x.major)); did || !term.Equal(u, api.Term{}) {
			t.Errorf("Iota of %s, %s: %s, %v, want none", x.t, x.major, show(u), did)
		}
	}
}

// odd: a family with a constructor whose fields are of all makes, and what Iota makes of it.
type odd struct {
	what             string
	count            int
	typ, ctor, major string
	t, want          string
}

// P13.3: which fields are recursive, what their hypotheses have, whatever else the declarations are.
func TestIotaFields(t *testing.T) {
	for _, x := range []odd{
		{"a field that names the family elsewhere", 0, `*0`, `!(f I). !(#0 I). !\I. #0. !=a:I. I. I`, `((((k a) b) a) b)`, `(((r C) c) #9)`, `((((c a) b) a) b)`},
		{"a field of Pis whose ends are others", 0, `*0`, `!!I. a. !!a. (#0 I). I`, `((k a) b)`, `(((r C) c) #9)`, `((c a) b)`},
		{"a field with the family behind a Pi of it", 0, `*0`, `!!I. I. I`, `(k a)`, `(((r C) c) #9)`, `((c a) \I. (((r C) c) (a #0)))`},
		{"a family of other Levels", 0, `*0`, `!I{0,0}. I`, `(k a)`, `(((r C) c) #9)`, `((c a) (((r C) c) a))`},
		{"a family that is a parameter, of another family", 1, `!*0. *0`, `!*0. !#0. I`, `((k a) b)`, `((((r I) C) c) #9)`, `(c b)`},
		{"more arguments than indices", 0, `*0`, `!((I a) b). I`, `(k #1)`, `(((r C) c) #9)`, `((c #1) (((((r C) c) a) b) #1))`},
		{"fewer arguments than parameters", 2, `!*0. !*0. *0`, `!*0. !*0. !(I a). !I. I`, `((((k #1) #2) #3) #4)`, `(((((r a) b) C) c) #9)`,
			`((((c #3) #4) (((((r a) b) C) c) #3)) (((((r a) b) C) c) #4))`},
		{"fewer Pis than parameters", 2, `!*0. !*0. *0`, `!I. I`, `((k #1) #2)`, `(((((r a) b) C) c) #9)`, `c`},
		{"as many Pis as parameters", 1, `!*0. *0`, `!*0. I`, `(k #1)`, `((((r a) C) c) #9)`, `c`},
		{"no Pi that the Type does not begin with", 0, `*0`, `=a:b. !I. I`, `k`, `(((r C) c) #9)`, `c`},
		{"no index that the Type does not begin with", 0, `=a:b. !I. *0`, `I`, `k`, `(((r C) c) #9)`, `c`},
		{"free variables of the Type", 1, `!*0. *0`, `!*0. !(I #0). !((I #2) (#3 #4)). I`, `(((k #1) #2) #3)`, `((((r #5) C) c) #9)`,
			`((((c #2) #3) ((((r #5) C) c) #2)) (((((r #5) C) c) (#1 #2)) #3))`},
		{"variables below binders of an index", 1, `!*0. !*0. *0`, `!*0. !*0. !!a. ((I #0) \#0. ((#1 #2) #3)). I`, `(((k a) #1) #2)`, `(((((r #5) C) c) #8) #9)`,
			`(((c #1) #2) \a. (((((r #6) C) c) \#0. ((#1 #3) #7)) (#3 #0)))`},
		{"types of Pis that hang on one another", 1, `!*0. *0`, `!*0. !*0. !!#0. !(#0 #1). !((#2 #3) #0). (I #0). I`, `(((k a) #1) #2)`, `((((r #5) C) c) #9)`,
			`(((c #1) #2) \#1. \(#0 #2). \((#3 #7) #0). ((((r #8) C) c) (((#5 #2) #1) #0)))`},
	} {
		f := family("I", x.count, x.typ, "k", x.ctor)
		e := with(f, rec("r", 0, "I"))
		if u, did := whnf.Iota(e, of(x.t), of(x.major)); !did || !term.Equal(u, of(x.want)) {
			t.Errorf("%s: Iota of %s, %s: %s, %v, want %s", x.what, x.t, x.major, show(u), did, x.want)
		}
	}
}

// P13.3: a hypothesis has the recursor's Levels in the place of the constructor's parameters, and nothing else has.
func TestIotaLevels(t *testing.T) {
	e := with(family("I", 1, `!*p0. !*p1. *0`, "k", `!*p0. !*Sp1. !!*Mp0p1. ((I{p1} #0) (a{p2} #1)). I`), rec("r", 2, "I"))
	u, did := whnf.Iota(e, of(`(((((r{p1,SS0} *p0) C{p1}) c) #8) #9)`), of(`(((k{p3} *p0) *p1) b{p0})`))
	want := of(`(((c *p1) b{p0}) \*Mp1SS0. (((((r{p1,SS0} *p0) C{p1}) c) (a{p2} *p1)) (b{p0} #0)))`)
	if !did || !term.Equal(u, want) {
		t.Errorf("%s, %v, want %s", show(u), did, show(want))
	}
}

// P13.1, P13.3: Levels of a hypothesis must fit, too.
func TestIotaLevelsFit(t *testing.T) {
	e := with(family("I", 0, `*0`, "k", `!!*SSp0. I. I`), rec("r", 1, "I"))
	for succs, want := range map[int]api.Errno{29: api.OK, 30: api.ErrCells, 31: api.ErrCells} {
		x := app(con("r", tallOver(succs, api.Level{})), con("C"), con("c"), of(`(k b)`))
		if _, did, n, err := whnf.Once(e, x, much); err != want || did != (want == api.OK) || n.Fuel != much.Fuel-1 {
			t.Errorf("a hypothesis with %d Succs: %v, %v, %d, want %d", succs+2, did, n, err, want)
		}
	}
}

// P13.3: the constructor is the k-th of many.
func TestIotaManyConstructors(t *testing.T) {
	const count = 40
	f := api.Decl{Kind: api.DeclFamily, Name: "I", Count: 1, Type: of(`!*0. !*0. *0`)}
	for k := range count {
		f.Ctors = append(f.Ctors, api.Ctor{Name: fmt.Sprintf("k%d", k), Type: of(`!*0. !(I #0). I`)})
	}
	e := with(f, rec("r", 0, "I"))
	x := app(con("r"), con("p"), con("C"))
	for k := range count {
		x = app(x, con(fmt.Sprintf("c%d", k)))
	}
	fixed := x
	x = app(x, con("i"), con("m"), con("z"))
	for k := range count {
		u, did := whnf.Iota(e, x, app(con(fmt.Sprintf("k%d", k)), con("q"), v(k)))
		want := app(con(fmt.Sprintf("c%d", k)), v(k), app(fixed, v(k)), con("z"))
		if !did || !term.Equal(u, want) {
			t.Errorf("constructor %d: %s, %v, want %s", k, show(u), did, show(want))
		}
		if u, did := whnf.Iota(e, app(fixed, con("i")), app(con(fmt.Sprintf("k%d", k)), con("q"), v(k))); did {
			t.Errorf("constructor %d where the major is not there: %s", k, show(u))
		}
	}
}

// P13.3: hypotheses of several recursive fields are in order, behind all fields.
func TestIotaManyFields(t *testing.T) {
	e := with(family("I", 0, `*0`, "k", `!I. !a. !(I #0). !I. !b. !(I #3). I`), rec("r", 0, "I"))
	u, did := whnf.Iota(e, of(`((((r C) c) #9) z)`), of(`((((((k #1) #2) #3) #4) #5) #6)`))
	h := func(index, field string) string {
		if index != "" {
			return "((((r C) c) " + index + ") " + field + ")"
		}
		return "(((r C) c) " + field + ")"
	}
	want := of("(((((((((((c #1) #2) #3) #4) #5) #6) " + h("", "#1") + ") " + h("#2", "#3") + ") " + h("", "#4") + ") " + h("#2", "#6") + ") z)")
	if !did || !term.Equal(u, want) {
		t.Errorf("%s, %v, want %s", show(u), did, show(want))
	}
}

// P13.1, P13.3: a family's Count from 0 to 100.
func TestIotaManyParameters(t *testing.T) {
	for _, count := range []int{0, 1, 99, 100} {
		typ, ctor := of(`!a. *0`), of(`!I. I`)
		x, major := con("r"), con("k")
		for i := range count {
			typ, ctor = pi(con("a"), typ), pi(con("a"), ctor)
			x, major = app(x, v(i)), app(major, con("b"))
		}
		e := with(api.Decl{Kind: api.DeclFamily, Name: "I", Count: count, Type: typ, Ctors: []api.Ctor{{Name: "k", Type: ctor}}}, rec("r", 0, "I"))
		x = app(x, con("C"), con("c"))
		want := app(con("c"), con("f"), app(x, con("f")))
		if u, did, n, err := whnf.Once(e, app(x, con("i"), app(major, con("f"))), api.Meter{Fuel: 1, Cells: 1000}); !did || !term.Equal(u, want) || n.Fuel != 0 || err != api.OK {
			t.Errorf("%d parameters: %s, %v, %v, %d", count, show(u), did, n, err)
		}
	}
}

// P13.3: a family that has none of its Levels, or Counts that may not be.
func TestIotaOddCounts(t *testing.T) {
	for _, count := range []int{-1, -3, -1 << 63, 2, 101, 1<<63 - 1} {
		f := family("I", count, `!*0. *0`, "k", `!*0. I`)
		e := with(f, rec("r", 0, "I"))
		for args := range 8 {
			x := con("r")
			for range args {
				x = app(x, con("a"))
			}
			if u, did := whnf.Iota(e, x, of(`(k a)`)); did {
				t.Errorf("Count %d, %d arguments: %s", count, args, show(u))
			}
			if u, n, err := whnf.Whnf(e, x, much); !term.Equal(u, x) || n != much || err != api.OK {
				t.Errorf("Whnf with Count %d, %d arguments: %s, %v, %d", count, args, show(u), n, err)
			}
		}
	}
}

// P13.3: a recursor needs no declaration of the constructors, and one of another kind counts for nothing.
func TestIotaWithoutConstructors(t *testing.T) {
	for what, e := range map[string]*env.Env{
		"none":              with(family("N", 0, "*0", "z", "N"), rec("r", 0, "N")),
		"axiom":             with(family("N", 0, "*0", "z", "N"), rec("r", 0, "N"), axiom("z")),
		"constructor":       with(family("N", 0, "*0", "z", "N"), rec("r", 0, "N"), api.Decl{Kind: api.DeclCtor, Name: "z", Family: "N", Type: of("N")}),
		"of another family": with(family("N", 0, "*0", "z", "N"), rec("r", 0, "N"), api.Decl{Kind: api.DeclCtor, Name: "z", Family: "M", Count: 7, Type: of("!a. N")}),
	} {
		if u, did, n, err := whnf.Once(e, of(`(((r C) a) z)`), much); !did || !term.Equal(u, of(`a`)) || n.Fuel != much.Fuel-1 || err != api.OK {
			t.Errorf("%s: %s, %v, %v, %d", what, show(u), did, n, err)
		}
	}
}
