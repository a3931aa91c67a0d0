package whnf_test

import (
	"testing"

	"touchstone/api"
	"touchstone/env"
	"touchstone/term"
	"touchstone/whnf"
)

// much: more than any term of these tests needs.
var much = api.Meter{Fuel: 1000, Cells: 1000}

// step: a term, what one step makes of it, and how many steps that takes with those of its major.
type step struct {
	from, to string
	fuel     int
}

var lamSteps = []step{
	{`(\a. #0 b)`, `b`, 1},
	{`(\a. b #4)`, `b`, 1},
	{`(\a. (#0 #1) b)`, `(b #0)`, 1},
	{`(\a. (#3 (#0 #2)) #5)`, `(#2 (#5 #1))`, 1},
	{`((\a. \b. (#0 #1) #4) C)`, `(\b. (#0 #5) C)`, 1},
	{`(((\a. #0 f) a) #2)`, `((f a) #2)`, 1},
	{`(\a. (#0 #0) \a. (#0 #0))`, `(\a. (#0 #0) \a. (#0 #0))`, 1},
	{`(\a. \#0. !#1. =#2:#2. (#3 #4) #7)`, `\#7. !#8. =#9:#9. (#10 #3)`, 1},
	{`(\#9. \(#0 #1). #1 \C. (#0 #4))`, `\(\C. (#0 #4) #0). \C. (#0 #5)`, 1},
	{`(\a. (\b. #1 #0) (\a. #0 b))`, `(\b. (\a. #0 b) (\a. #0 b))`, 1},
}

var letSteps = []step{
	{`=a:b. #0`, `b`, 1},
	{`=a:b. C`, `C`, 1},
	{`=#9:#3. (#0 #1)`, `(#3 #0)`, 1},
	{`=a:f. \#0. (#1 #2)`, `\f. (f #1)`, 1},
	{`=a:#2. \#0. (#1 #2)`, `\#2. (#3 #1)`, 1},
	{`(=a:f. #0 b)`, `(f b)`, 1},
	{`((=a:#1. \b. (#0 #1) b) #0)`, `((\b. (#0 #2) b) #0)`, 1},
	{`=a:=a:b. #0. #0`, `=a:b. #0`, 1},
}

var definitionSteps = []step{
	{`two`, `(suc (suc zero))`, 1},
	{`(two a)`, `((suc (suc zero)) a)`, 1},
	{`id{SS0}`, `\*SS0. \#0. #0`, 1},
	{`((id{p3} #1) #2)`, `((\*p3. \#0. #0 #1) #2)`, 1},
	{`sorts{p1,p0}`, `\*p1. \*p0. (f *Mp1Sp0)`, 1},
	{`(sorts{Ip0p1,0} b)`, `(\*Ip0p1. \*0. (f *MIp0p1S0) b)`, 1},
	{`loop`, `loop`, 1},
	{`(open #7)`, `((#2 \a. (#3 #0)) #7)`, 1},
}

var recursorSteps = []step{
	{`((((Nat.rec{0} C) a) b) zero)`, `a`, 1},
	{`((((Nat.rec{0} C) a) b) (suc f))`, `((b f) ((((Nat.rec{0} C) a) b) f))`, 1},
	{`(((((Nat.rec{0} C) a) b) zero) #3)`, `(a #3)`, 1},
	{`((((((Nat.rec{0} C) a) b) (suc f)) #3) C)`, `((((b f) ((((Nat.rec{0} C) a) b) f)) #3) C)`, 1},
	{`((((Nat.rec{0} C) a) b) two)`, `((b (suc zero)) ((((Nat.rec{0} C) a) b) (suc zero)))`, 2},
	{`((((Nat.rec{0} C) a) b) (\a. (suc #0) #4))`, `((b #4) ((((Nat.rec{0} C) a) b) #4))`, 2},
	{`((((Nat.rec{0} C) a) b) =a:zero. #0)`, `a`, 2},
	{`((((Nat.rec{0} C) a) b) ((id{S0} Nat) zero))`, `a`, 4},
	{`((((Nat.rec{0} C) a) b) ((((Nat.rec{0} C) two) b) zero))`, `((b (suc zero)) ((((Nat.rec{0} C) a) b) (suc zero)))`, 3},
	{`((((Nat.rec{0} C) (\a. #0 a)) b) zero)`, `(\a. #0 a)`, 1},
	{`((((Nat.rec{0} C) two) b) zero)`, `two`, 1},
}

var allSteps = [][]step{lamSteps, letSteps, definitionSteps, recursorSteps}

// P13.1: one step of each kind, alone and applied: what it makes, and how much fuel it takes.
func TestOnceSteps(t *testing.T) {
	e := common()
	for _, list := range allSteps {
		for _, x := range list {
			u, did, n, err := whnf.Once(e, of(x.from), much)
			want := api.Meter{Fuel: much.Fuel - x.fuel, Cells: much.Cells}
			if !term.Equal(u, of(x.to)) || !did || n != want || err != api.OK {
				t.Errorf("Once of %s: %s, %v, %v, %d, want %s, true, %v, 0", x.from, show(u), did, n, err, x.to, want)
			}
		}
	}
}

// P13.1: with just the fuel that it takes a step is taken; with less it is ErrFuel, and none is left.
// Without fuel, and without cells, it is ErrFuel: a step is taken ahead of what it makes.
func TestOnceFuel(t *testing.T) {
	e := common()
	for _, list := range allSteps {
		for _, x := range list {
			for fuel := range x.fuel + 1 {
				u, did, n, err := whnf.Once(e, of(x.from), api.Meter{Fuel: fuel, Cells: 1000})
				if fuel == x.fuel {
					if !did || err != api.OK || n != (api.Meter{Cells: 1000}) || !term.Equal(u, of(x.to)) {
						t.Errorf("Once of %s with fuel %d: %s, %v, %v, %d, want a step, and none left", x.from, fuel, show(u), did, n, err)
					}
				} else if did || err != api.ErrFuel || n != (api.Meter{Cells: 1000}) || !term.Equal(u, api.Term{}) {
					t.Errorf("Once of %s with fuel %d: %s, %v, %v, %d, want ErrFuel, and none left", x.from, fuel, show(u), did, n, err)
				}
			}
			for _, m := range []api.Meter{{}, {Fuel: -7, Cells: -8}, {Fuel: -1, Cells: 5}} {
				if u, did, n, err := whnf.Once(e, of(x.from), m); did || err != api.ErrFuel || n != m || !term.Equal(u, api.Term{}) {
					t.Errorf("Once of %s with %v: %s, %v, %v, %d, want ErrFuel, and the meter as it is", x.from, m, show(u), did, n, err)
				}
			}
		}
	}
}

// P13.1: what a step makes fits at just as many cells as it has parts; at one less it is ErrCells,
// beside which the step is taken.
func TestOnceCells(t *testing.T) {
	e := common()
	for _, list := range allSteps {
		for _, x := range list {
			size := term.Size(of(x.to), 1000)
			if x.fuel > 1 {
				size = max(size, 14) // what majors make on the way
			}
			m := api.Meter{Fuel: 9, Cells: size}
			if u, did, n, err := whnf.Once(e, of(x.from), m); !did || !term.Equal(u, of(x.to)) || n != (api.Meter{Fuel: 9 - x.fuel, Cells: size}) || err != api.OK {
				t.Errorf("Once of %s with %v: %s, %v, %v, %d, want %s", x.from, m, show(u), did, n, err, x.to)
			}
			if size > term.Size(of(x.to), 1000) {
				continue
			}
			m.Cells--
			if u, did, n, err := whnf.Once(e, of(x.from), m); did || !term.Equal(u, api.Term{}) || n != (api.Meter{Fuel: 9 - x.fuel, Cells: size - 1}) || err != api.ErrCells {
				t.Errorf("Once of %s with %v: %s, %v, %v, %d, want ErrCells, a step less", x.from, m, show(u), did, n, err)
			}
		}
	}
	x := of(`(\a. b a)`)
	for _, cells := range []int{0, -1, -1 << 40} {
		if _, did, n, err := whnf.Once(e, x, api.Meter{Fuel: 2, Cells: cells}); did || n != (api.Meter{Fuel: 1, Cells: cells}) || err != api.ErrCells {
			t.Errorf("Once with %d cells: %v, %v, %d, want ErrCells", cells, did, n, err)
		}
	}
}

// P13.1: what a major makes must fit by itself; the term that it stands in is not counted there.
func TestOnceMajorsCells(t *testing.T) {
	e := common()
	x := of(`((((Nat.rec{0} (f (f (f (f f))))) zero) b) ((\Nat. \Nat. zero (f f)) (f f)))`)
	for cells := range 30 {
		u, did, n, err := whnf.Once(e, x, api.Meter{Fuel: 9, Cells: cells})
		switch {
		case cells < 7 && (err != api.ErrCells || n.Fuel != 8 || did || !term.Equal(u, api.Term{})):
			t.Errorf("with %d cells: %s, %v, %v, %d, want ErrCells of the major's first step", cells, show(u), did, n, err)
		case cells >= 7 && (err != api.OK || n.Fuel != 6 || !did || !term.Equal(u, of("zero"))):
			t.Errorf("with %d cells: %s, %v, %v, %d, want zero", cells, show(u), did, n, err)
		}
	}
}

// P13.1: a major's errors are the term's.
func TestOnceMajorsErrors(t *testing.T) {
	e := common()
	for _, x := range []struct {
		from string
		m    api.Meter
		fuel int
		err  api.Errno
	}{
		{`((((Nat.rec{0} C) a) b) loop)`, api.Meter{Fuel: 20, Cells: 100}, 0, api.ErrFuel},
		{`((((Nat.rec{0} C) a) b) two)`, api.Meter{Fuel: 20, Cells: 4}, 19, api.ErrCells},
		{`((((Nat.rec{0} C) a) b) (\a. ((#0 #0) #0) \a. ((#0 #0) #0)))`, api.Meter{Fuel: 20, Cells: 50}, 15, api.ErrCells},
		{`((Empty.rec{0} C) ((Empty.rec{0} C) loop))`, api.Meter{Fuel: 7, Cells: 100}, 0, api.ErrFuel},
		{`sink`, api.Meter{Fuel: 7, Cells: 5}, 0, api.ErrFuel},
		{`sink`, api.Meter{Fuel: 7, Cells: 4}, 6, api.ErrCells},
	} {
		u, n, err := whnf.Whnf(e, of(x.from), x.m)
		if !term.Equal(u, api.Term{}) || n != (api.Meter{Fuel: x.fuel, Cells: x.m.Cells}) || err != x.err {
			t.Errorf("Whnf of %s with %v: %s, %v, %d, want fuel %d, %d", x.from, x.m, show(u), n, err, x.fuel, x.err)
		}
	}
}

// stays: a term that takes no step, and how many steps its major takes.
type stays struct {
	t    string
	fuel int
}

var noSteps = []stays{
	{`#0`, 0}, {`#7`, 0}, {`(#2 a)`, 0}, {`((#0 (\a. #0 b)) two)`, 0},
	{`*0`, 0}, {`*Mp0Sp3`, 0}, {`(*0 a)`, 0},
	{`!a. #0`, 0}, {`!(\a. #0 b). (\a. #0 b)`, 0}, {`(!a. #0 b)`, 0},
	{`\a. #0`, 0}, {`\a. (\a. #0 b)`, 0}, {`\=a:b. #0. two`, 0},
	{`a`, 0}, {`(a b)`, 0}, {`((a two) loop)`, 0}, {`a{0}`, 0},
	{`zero`, 0}, {`(suc two)`, 0}, {`(zero a)`, 0},
	{`Nat`, 0}, {`(Nat a)`, 0}, {`((Vec{0} Nat) two)`, 0},
	{`unknown`, 0}, {`(unknown (\a. #0 b))`, 0}, {`unknown{0,0}`, 0},
	{`id`, 0}, {`id{0,0}`, 0}, {`two{0}`, 0}, {`((id Nat) a)`, 0}, {`(two{0} a)`, 0}, {`sorts{0}`, 0}, {`sorts{0,0,0}`, 0}, {`(sorts a)`, 0},
	{`Nat.rec{0}`, 0}, {`(((Nat.rec{0} C) a) b)`, 0}, {`(((Nat.rec{0} C) two) loop)`, 0},
	{`((((Nat.rec C) a) b) zero)`, 0}, {`((((Nat.rec{0,0} C) a) b) zero)`, 0}, {`((((Nat.rec C) a) b) two)`, 0},
	{`((((Nat.rec{0} C) a) b) a)`, 0}, {`((((Nat.rec{0} C) a) b) #3)`, 0}, {`((((Nat.rec{0} C) a) b) suc)`, 0},
	{`((((Nat.rec{0} C) a) b) (zero a))`, 0}, {`((((Nat.rec{0} C) a) b) nil{0})`, 0}, {`((((Nat.rec{0} C) a) b) \a. #0)`, 0},
	{`((((Nat.rec{0} C) a) b) ((\a. #0 f) zero))`, 1}, {`((((Nat.rec{0} C) a) b) (two a))`, 1},
	{`(((((Nat.rec{0} C) a) b) =a:b. (f #0)) (\a. #0 a))`, 1}, {`((((Nat.rec{0} C) a) b) ((id{S0} Nat) #2))`, 3},
	{`((((Nat.rec{0} C) a) b) ((((Nat.rec{0} C) a) b) two))`, 2},
	{`((((Nat.rec{0} C) a) b) ((((Nat.rec{0} C) a) b) ((((Nat.rec{0} C) f) b) (\a. #0 zero))))`, 2},
	{`((Empty.rec{0} C) (\a. #0 zero))`, 1}, {`((Empty.rec{0} C) zero)`, 0}, {`(((lost.rec{0} C) a) zero)`, 0}, {`(((a.rec{0} C) two) two)`, 0},
	{`((((Few.rec{0} C) a) few) two)`, 0}, {`(((Few.rec{0} C) a) few)`, 0},
}

// P13.1: what takes no step is told as it is, and takes no fuel but for its major's steps, which count;
// there is no error where there is no fuel, and no cells, as long as nothing is made.
func TestOnceStays(t *testing.T) {
	e := common()
	for _, x := range noSteps {
		for _, m := range []api.Meter{much, {Fuel: x.fuel, Cells: 100}, {Fuel: x.fuel + 1, Cells: 100}} {
			u, did, n, err := whnf.Once(e, of(x.t), m)
			if !term.Equal(u, of(x.t)) || did || n != (api.Meter{Fuel: m.Fuel - x.fuel, Cells: m.Cells}) || err != api.OK {
				t.Errorf("Once of %s with %v: %s, %v, %v, %d, want itself, and %d steps of its major", x.t, m, show(u), did, n, err, x.fuel)
			}
		}
		for _, m := range []api.Meter{{}, {Fuel: -3, Cells: -4}, {Fuel: 5}} {
			u, did, n, err := whnf.Once(e, of(x.t), m)
			if x.fuel == 0 && (!term.Equal(u, of(x.t)) || did || n != m || err != api.OK) {
				t.Errorf("Once of %s with %v: %s, %v, %v, %d, want itself", x.t, m, show(u), did, n, err)
			}
			if x.fuel > 0 && m.Fuel <= 0 && (!term.Equal(u, api.Term{}) || did || n != m || err != api.ErrFuel) {
				t.Errorf("Once of %s with %v: %s, %v, %v, %d, want ErrFuel", x.t, m, show(u), did, n, err)
			}
		}
		for fuel := range x.fuel {
			u, did, n, err := whnf.Once(e, of(x.t), api.Meter{Fuel: fuel, Cells: 100})
			if !term.Equal(u, api.Term{}) || did || n != (api.Meter{Cells: 100}) || err != api.ErrFuel {
				t.Errorf("Once of %s with fuel %d: %s, %v, %v, %d, want ErrFuel", x.t, fuel, show(u), did, n, err)
			}
		}
	}
}

// tallOver: a level with so many Succs around end.
func tallOver(succs int, end api.Level) api.Level {
	for range succs {
		end = succ(end)
	}
	return end
}

// broadOver: a level of so many Maxes, as flat as may be, with end at each end: twice as many parts, and one more.
func broadOver(maxes int, end api.Level) api.Level {
	if maxes == 0 {
		return end
	}
	one := (maxes - 1) / 2
	return maxOf(broadOver(one, end), broadOver(maxes-1-one, end))
}

// P13.1: Levels that a definition's parameters make fit up to MaxLevel deep and MaxParts parts, and no further.
func TestOnceLevelsFit(t *testing.T) {
	value := func(l api.Level) *env.Env {
		return with(api.Decl{Kind: api.DeclDef, Name: "d", Params: 1, Value: lam(sortOf(l), app(v(0), sortOf(param(0))))})
	}
	for _, x := range []struct {
		what string
		in   api.Level
		by   api.Level
		want api.Errno
	}{
		{"32 deep", tallOver(20, param(0)), tallOver(11, api.Level{}), api.OK},
		{"33 deep", tallOver(20, param(0)), tallOver(12, api.Level{}), api.ErrCells},
		{"32 deep by itself", tallOver(31, api.Level{}), tallOver(31, api.Level{}), api.OK},
		{"32 deep, and one more", tallOver(1, param(0)), tallOver(31, api.Level{}), api.ErrCells},
		{"63 parts", broadOver(15, param(0)), broadOver(1, param(3)), api.OK},
		{"64 parts", succ(broadOver(15, param(0))), broadOver(1, param(3)), api.OK},
		{"65 parts", succ(succ(broadOver(15, param(0)))), broadOver(1, param(3)), api.ErrCells},
		{"95 parts", broadOver(15, param(0)), succ(broadOver(2, param(3))), api.ErrCells},
		{"64 parts by themselves", succ(broadOver(31, param(1))), succ(broadOver(31, param(1))), api.OK},
		{"32 * 64 parts", broadOver(31, param(0)), succ(broadOver(31, param(1))), api.ErrCells},
	} {
		e := value(x.in)
		m := api.Meter{Fuel: 4, Cells: 50}
		u, did, n, err := whnf.Once(e, app(con("d", x.by), con("a")), m)
		want := api.Term{}
		if x.want == api.OK {
			want = app(lam(term.Levels(sortOf(x.in), []api.Level{x.by}), app(v(0), sortOf(x.by))), con("a"))
		}
		if !term.Equal(u, want) || did != (x.want == api.OK) || n != (api.Meter{Fuel: 3, Cells: 50}) || err != x.want {
			t.Errorf("Levels %s: %s, %v, %v, %d, want %s, %d", x.what, show(u), did, n, err, show(want), x.want)
		}
	}
}

// P13.1: Levels that are in a term count where what is made has them, and not where it has not.
func TestOnceGreatLevelsInTerms(t *testing.T) {
	great := sortOf(tallOver(32, param(0)))
	for _, x := range []struct {
		t    api.Term
		want api.Errno
	}{
		{app(lam(great, con("b")), con("a")), api.OK},
		{app(lam(con("a"), con("b")), great), api.OK},
		{app(lam(con("a"), v(0)), great), api.ErrCells},
		{app(lam(con("a"), great), con("a")), api.ErrCells},
		{app(lam(con("a"), con("b")), con("a"), con("b"), great), api.ErrCells},
		{app(lam(con("a"), con("b")), con("a"), great, con("b")), api.ErrCells},
	} {
		if _, did, n, err := whnf.Once(nil, x.t, much); err != x.want || did != (err == api.OK) || n.Fuel != much.Fuel-1 {
			t.Errorf("Once of %s: %v, %v, %d, want %d", show(x.t), did, n, err, x.want)
		}
	}
}

// P13.1: an environment that is nil, or a zero one, has nothing; one over another has what is beneath, too.
func TestOnceEnvironments(t *testing.T) {
	for _, e := range []*env.Env{nil, {}, env.New()} {
		for _, s := range []string{`two`, `id{0}`, `((((Nat.rec{0} C) a) b) zero)`, `a`} {
			if u, did, n, err := whnf.Once(e, of(s), much); did || !term.Equal(u, of(s)) || n != much || err != api.OK {
				t.Errorf("Once of %s where nothing is declared: %s, %v, %v, %d", s, show(u), did, n, err)
			}
		}
		for _, x := range append(lamSteps, letSteps...) {
			if u, did, _, err := whnf.Once(e, of(x.from), much); !did || !term.Equal(u, of(x.to)) || err != api.OK {
				t.Errorf("Once of %s where nothing is declared: %s, %v, %d", x.from, show(u), did, err)
			}
		}
		if u, did := whnf.Iota(e, of(`((((Nat.rec{0} C) a) b) zero)`), of(`zero`)); did || !term.Equal(u, api.Term{}) {
			t.Errorf("Iota where nothing is declared: %s, %v", show(u), did)
		}
	}
	over := common().Over()
	over.Add(def("three", 0, "(suc two)"))
	for _, x := range []step{{`three`, `(suc two)`, 1}, {`two`, `(suc (suc zero))`, 1}, {`((((Nat.rec{0} C) a) b) three)`, `((b two) ((((Nat.rec{0} C) a) b) two))`, 2}} {
		if u, did, n, err := whnf.Once(over, of(x.from), much); !did || !term.Equal(u, of(x.to)) || much.Fuel-n.Fuel != x.fuel || err != api.OK {
			t.Errorf("Once of %s over another environment: %s, %v, %v, %d, want %s", x.from, show(u), did, n, err, x.to)
		}
	}
}

// P13.1: a name is what its declaration's kind says, whatever else that has.
func TestOnceOtherKinds(t *testing.T) {
	d := def("d", 0, "a")
	for kind := -1; kind <= 7; kind++ {
		d.Kind = kind
		e := with(d)
		if _, did, n, err := whnf.Once(e, of("(d b)"), much); did != (kind == api.DeclDef) || err != api.OK || n.Fuel != much.Fuel-map[bool]int{true: 1}[did] {
			t.Errorf("Once of a declaration of kind %d with a Value: %v, %v, %d", kind, did, n, err)
		}
	}
	for kind := -1; kind <= 7; kind++ {
		r := rec("N.rec", 0, "N")
		r.Kind = kind
		e := with(family("N", 0, "*0", "z", "N"), r)
		if _, did := whnf.Iota(e, of("(((N.rec C) a) b)"), of("z")); did != (kind == api.DeclRec) {
			t.Errorf("Iota of a declaration of kind %d with a Family: %v", kind, did)
		}
		f := family("N", 0, "*0", "z", "N")
		f.Kind = kind
		if _, did := whnf.Iota(with(f, rec("N.rec", 0, "N")), of("(((N.rec C) a) b)"), of("z")); did != (kind == api.DeclFamily) {
			t.Errorf("Iota with a family of kind %d: %v", kind, did)
		}
	}
}
