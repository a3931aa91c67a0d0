package whnf_test

import (
	"runtime"
	"testing"

	"touchstone/api"
	"touchstone/env"
	"touchstone/term"
	"touchstone/whnf"
)

// bush: a Level of 2^deep - 1 parts, deep if l is none, with l at its ends.
func bush(deep int, l api.Level) api.Level {
	for range deep - 1 {
		l = maxOf(l, l)
	}
	return l
}

// sharing: a Const, applied to so many Consts, each with the same list of so many Levels l.
func sharing(consts, levels int, l api.Level) api.Term {
	list := make([]api.Level, levels)
	for i := range list {
		list[i] = l
	}
	return row(con("a"), con("c", list...), consts)
}

// byLevels: environments in which value stands where a step puts Levels in it, and a term with by in their place;
// what comes of it is made from what comes of value.
func byLevels(value api.Term, by ...api.Level) map[string]struct {
	env  *env.Env
	from api.Term
	to   func(value api.Term) api.Term
} {
	k := app(con("k"), con("f"))
	return map[string]struct {
		env  *env.Env
		from api.Term
		to   func(value api.Term) api.Term
	}{
		"a definition's": {
			with(api.Decl{Kind: api.DeclDef, Params: len(by), Name: "d", Value: value}),
			con("d", by...), func(value api.Term) api.Term { return value },
		},
		"a constructor's": {
			with(
				api.Decl{Kind: api.DeclFamily, Name: "I", Type: of("*0"), Ctors: []api.Ctor{{Name: "k", Type: pi(pi(value, con("I")), con("I"))}}},
				api.Decl{Kind: api.DeclRec, Params: len(by), Name: "r", Family: "I"},
			),
			app(con("r", by...), con("C"), con("b"), k),
			func(value api.Term) api.Term {
				return app(con("b"), con("f"), lam(value, app(con("r", by...), con("C"), con("b"), app(con("f"), v(0)))))
			},
		},
	}
}

// P13.1, P13.2: many Levels, that would be greater than may be with others put in, do not fit, and take no room.
func TestManyLevelsTooGreat(t *testing.T) {
	for what, x := range byLevels(sharing(800, 20000, bush(6, param(0))), bush(6, api.Level{})) {
		var before, after runtime.MemStats
		runtime.ReadMemStats(&before)
		m, left := api.Meter{Fuel: 3, Cells: 1000000}, api.Meter{Fuel: 2, Cells: 1000000}
		if u, did, n, err := whnf.Once(x.env, x.from, m); !term.Equal(u, api.Term{}) || did || n != left || err != api.ErrCells {
			t.Errorf("%s: Once: %s, %v, %v, %d, want ErrCells behind one step", what, show(u), did, n, err)
		}
		if u, n, err := whnf.Whnf(x.env, x.from, m); !term.Equal(u, api.Term{}) || n != left || err != api.ErrCells {
			t.Errorf("%s: Whnf: %s, %v, %d, want ErrCells behind one step", what, show(u), n, err)
		}
		runtime.ReadMemStats(&after)
		if most := uint64(1 << 28); after.TotalAlloc-before.TotalAlloc > most {
			t.Errorf("%s: %d bytes, want at most %d", what, after.TotalAlloc-before.TotalAlloc, most)
		}
	}
}

// P13.2: many Levels, as great as may be with others put in, fit, and take no room as long as they are not told.
func TestManyLevelsGone(t *testing.T) {
	value := app(lam(con("a"), con("b")), sharing(800, 20000, bush(6, param(0))))
	for by, want := range map[int]api.Errno{1: api.OK, 2: api.ErrCells} {
		e := with(api.Decl{Kind: api.DeclDef, Params: 1, Name: "d", Value: value})
		u, n, err := whnf.Whnf(e, con("d", bush(by, param(3))), api.Meter{Fuel: 9, Cells: 2000})
		if err != want || err == api.OK && (n.Fuel != 7 || !term.Equal(u, con("b"))) || err != api.OK && n.Fuel != 8 {
			t.Errorf("with Levels of %d parts put in: %s, %v, %d, want %d", 2*by-1, show(u), n, err, want)
		}
		u, did, n, err := whnf.Once(e, con("d", bush(by, param(3))), api.Meter{Fuel: 9, Cells: 2000})
		if did || !term.Equal(u, api.Term{}) || n.Fuel != 8 || err != api.ErrCells {
			t.Errorf("more Levels than may be told: %s, %v, %v, %d, want ErrCells", show(u), did, n, err)
		}
	}
}

// P13.2: the same of lists that lie in one array, where one Level in the midst of it fits or does not.
func TestManyLevelsInOneArray(t *testing.T) {
	levels := make([]api.Level, 46000)
	for i := range levels {
		levels[i] = bush(6, param(0))
	}
	for by, want := range map[int]api.Errno{1: api.OK, 2: api.ErrCells} {
		levels[30000] = bush(6, param(1))
		e := with(api.Decl{Kind: api.DeclDef, Params: 2, Name: "d", Value: app(lam(con("a"), con("b")), levelsInOneArray(1490, levels))})
		if u, n, err := whnf.Whnf(e, con("d", param(0), bush(by, param(1))), api.Meter{Fuel: 9, Cells: 10000}); err != want || err == api.OK && !term.Equal(u, con("b")) {
			t.Errorf("with Levels of %d parts put in: %s, %v, %d, want %d", 2*by-1, show(u), n, err, want)
		}
	}
}

// P13.1, P13.2: what is told has all its Levels, with others put in, in new memory.
func TestManyLevelsTold(t *testing.T) {
	value := sharing(30, 100, bush(5, param(0)))
	by := []api.Level{maxOf(param(1), param(2))}
	for what, x := range byLevels(value, by...) {
		want := x.to(term.Levels(value, by))
		u, did, n, err := whnf.Once(x.env, x.from, much)
		if !did || !term.Equal(u, want) || n.Fuel != much.Fuel-1 || err != api.OK {
			t.Errorf("%s: Once: %s, %v, %v, %d", what, show(u), did, n, err)
		}
		if !newMemory(u).isNew(newMemory(x.from, value)) {
			t.Errorf("%s: Once: lists share memory", what)
		}
		if u, n, err := whnf.Whnf(x.env, x.from, much); !term.Equal(u, want) || n.Fuel != much.Fuel-1 || err != api.OK {
			t.Errorf("%s: Whnf: %s, %v, %d", what, show(u), n, err)
		}
	}
}

// P13.2: Levels put in where others were put in before.
func TestLevelsPutInTwice(t *testing.T) {
	e := with(def("d", 2, `(e{Mp0p1,Sp0} (c{p1} *p0))`), def("e", 2, `\a. (f{p1} (#0 *Ip0p1))`))
	u, n, err := whnf.Whnf(e, of(`d{p3,S0}`), much)
	if want := of(`\a. (f{Sp3} (#0 *IMp3S0Sp3))`); err != api.OK || n.Fuel != much.Fuel-3 || !term.Equal(u, of(`(f{Sp3} ((c{S0} *p3) *IMp3S0Sp3))`)) {
		t.Errorf("%s, %v, %d, want %s with its argument", show(u), n, err, show(want))
	}
}

// P13.3: what Iota tells has Levels as great as they are: it is Once that asks whether they fit.
func TestIotaGreatLevels(t *testing.T) {
	for _, deep := range []int{1, 2, 6} {
		value, by := sharing(3, 4, bush(6, param(0))), bush(deep, param(2))
		x := byLevels(value, by)["a constructor's"]
		u, did := whnf.Iota(x.env, x.from, app(con("k"), con("f")))
		if !did || !term.Equal(u, x.to(term.Levels(value, []api.Level{by}))) {
			t.Errorf("with Levels %d deep put in: %s, %v", deep, show(u), did)
		}
		if _, did, n, err := whnf.Once(x.env, x.from, much); did != (deep == 1) || (err == api.OK) != did || n.Fuel != much.Fuel-1 {
			t.Errorf("Once, with Levels %d deep put in: %v, %v, %d", deep, did, n, err)
		}
	}
}
