package arena_test

import (
	"math"
	"testing"

	"touchstone/api"
	"touchstone/arena"
)

// notWhole: terms that are not whole.
func notWhole() map[string]api.Term {
	return map[string]api.Term{
		"Kind -1": {Kind: -1}, "Kind 7": {Kind: 7}, "the least Kind": {Kind: math.MinInt}, "the greatest Kind": {Kind: math.MaxInt},
		"a Var below 0": v(-1), "a Var too far": v(far + 1), "the least Var": v(math.MinInt), "the greatest Var": v(math.MaxInt), "a Var with a Name": {Name: "a"}, "a Var with a Level": {Levels: []api.Level{zero}}, "a Var with Args": of(api.TermVar, c),
		"a Sort without a Level": {Kind: api.TermSort}, "a Sort with two": {Kind: api.TermSort, Levels: []api.Level{zero, u}}, "a Sort with N": {Kind: api.TermSort, N: 1, Levels: []api.Level{zero}}, "a Sort with a Name": {Kind: api.TermSort, Name: "a", Levels: []api.Level{zero}}, "a Sort with Args": {Kind: api.TermSort, Levels: []api.Level{zero}, Args: []api.Term{c}},
		"a Const with N": {Kind: api.TermConst, Name: "a", N: 1}, "a Const with N below 0": {Kind: api.TermConst, Name: "a", N: -1}, "a Const with Args": {Kind: api.TermConst, Name: "a", Args: []api.Term{c}},
		"an App of none": of(api.TermApp), "an App of one": of(api.TermApp, c), "an App of three": of(api.TermApp, c, c, c), "an App with N": {Kind: api.TermApp, N: 1, Args: []api.Term{c, c}}, "an App with a Name": {Kind: api.TermApp, Name: "a", Args: []api.Term{c, c}}, "an App with a Level": {Kind: api.TermApp, Levels: []api.Level{zero}, Args: []api.Term{c, c}},
		"a Lam of one": of(api.TermLam, c), "a Lam of three": of(api.TermLam, c, c, c), "a Lam with a Name": {Kind: api.TermLam, Name: "a", Args: []api.Term{c, c}}, "a Pi of one": of(api.TermPi, c), "a Pi of three": of(api.TermPi, c, c, c), "a Pi with N": {Kind: api.TermPi, N: 1, Args: []api.Term{c, c}},
		"a Let of two": of(api.TermLet, c, c), "a Let of four": of(api.TermLet, c, c, c, c), "a Let with a Level": {Kind: api.TermLet, Levels: []api.Level{zero}, Args: []api.Term{c, c, c}}, "a Let with N": {Kind: api.TermLet, N: 1, Args: []api.Term{c, c, c}},
	}
}

// P8.1: ErrForm of what is not whole, by itself and below others, also where there is no room.
func TestNotWhole(t *testing.T) {
	roomy, full := arena.New(100), arena.New(1)
	wantAdd(t, full, c, 0)
	wantAdd(t, roomy, c, 0)
	for _, bad := range notWhole() {
		for _, x := range []api.Term{bad, app(bad, d), app(d, bad), lam(d, app(v(0), bad)), let(d, d, bad), let(bad, d, d), leaning(api.TermPi, 1, 3000, bad)} {
			wantError(t, roomy, x, api.ErrForm)
			wantError(t, full, x, api.ErrForm)
			wantCost(t, roomy, x, 0)
			wantCost(t, full, x, 0)
		}
	}
	wantAdd(t, roomy, d, 1)
}

// ofParts: terms of just so many parts (an even number), deep ones and flat ones, and how many of these are unlike.
func ofParts(n int) map[string]struct {
	t    api.Term
	cost int
} {
	type sized = struct {
		t    api.Term
		cost int
	}
	return map[string]sized{
		"flat":               {let(c, c, bushy(api.TermApp, n-3, rising())), n - 1},
		"flat, all alike":    {let(c, c, leaning(api.TermApp, 0, (n-2)/2, prop)), (n-2)/2 + 2},
		"deep to the left":   {let(v(0), c, leaning(api.TermApp, 0, (n-2)/2, v(1))), (n-2)/2 + 4},
		"deep to the right":  {let(v(0), c, leaning(api.TermLam, 1, (n-2)/2, v(1))), (n-2)/2 + 4},
		"deep by their type": {let(leaning(api.TermPi, 0, (n-2)/2, v(1)), v(0), c), (n-2)/2 + 4},
	}
}

// P8.1: a term of just MaxCells parts is kept, one of more is ErrForm.
func TestMaxCells(t *testing.T) {
	for what, x := range ofParts(api.MaxCells) {
		if n := size(x.t); n != api.MaxCells {
			t.Fatalf("%s: %d parts", what, n)
		}
		a := arena.New(api.MaxCells)
		wantCost(t, a, x.t, x.cost)
		wantAdd(t, a, x.t, x.cost-1)
		wantLen(t, a, x.cost)
		wantTerm(t, a, x.cost-1, x.t)
		wantAdd(t, a, x.t, x.cost-1)
	}
	for _, n := range []int{api.MaxCells + 1, api.MaxCells + 3, 1<<20 - 1, 1<<20 + 1} {
		for _, x := range []api.Term{bushy(api.TermApp, n, always(c)), bushy(api.TermPi, n, rising()), leaning(api.TermLam, 1, (n+1)/2, c)} {
			a := arena.New(math.MaxInt)
			wantError(t, a, x, api.ErrForm)
			wantCost(t, a, x, 0)
			wantError(t, arena.New(0), x, api.ErrForm)
		}
	}
}

// P8.1: how great a term is tells its parts, not those that are kept already.
func TestMaxCellsKept(t *testing.T) {
	a := arena.New(100)
	x := c
	for range 15 {
		x = app(x, x) // 2^16 - 1 parts in the end
	}
	wantAdd(t, a, x, 15)
	wantError(t, a, app(x, x), api.ErrForm)
	wantCost(t, a, app(x, x), 0)
	wantLen(t, a, 16)
	wantTerm(t, a, 15, x)
}

// P8.1: ErrFull keeps nothing of the term, and numbers go on as if it had not been asked.
func TestFull(t *testing.T) {
	a := arena.New(4)
	wantError(t, a, app(app(c, d), v(0)), api.ErrFull) // it has 5
	wantNone(t, a, 0)
	wantCost(t, a, c, 1)
	wantAdd(t, a, v(7), 0)
	wantError(t, a, let(c, d, v(0)), api.ErrFull)
	wantCost(t, a, let(c, d, v(0)), 4)
	wantCost(t, a, c, 1)
	wantAdd(t, a, app(d, c), 3) // just as many as there is room for
	wantLen(t, a, 4)
	for _, x := range []api.Term{v(0), prop, app(c, c), app(app(d, c), v(7)), lam(d, c)} {
		wantCost(t, a, x, 1)
		wantError(t, a, x, api.ErrFull)
	}
	for i, x := range []api.Term{v(7), d, c, app(d, c)} { // what is kept needs no room
		wantAdd(t, a, x, i)
		wantTerm(t, a, i, x)
		wantCost(t, a, x, 0)
	}
	wantNone(t, a, 4)
}

// P8.1: Levels of a term that found no room are not there either: they turn nothing that comes later.
func TestFullOfLevels(t *testing.T) {
	a, fresh := arena.New(2), arena.New(2)
	wantError(t, a, let(sort(tall(9, u)), con("c", w, maxi(u, w)), con("d", succ(w))), api.ErrFull)
	for i, x := range []api.Term{con("c", maxi(u, w)), sort(tall(8, u))} {
		for _, each := range []*arena.Arena{a, fresh} {
			wantCost(t, each, x, 1)
			wantAdd(t, each, x, i)
			wantTerm(t, each, i, x)
		}
	}
}

// P8.1: Cost, ahead of Add, is what Len grows by.
func TestCost(t *testing.T) {
	a := arena.New(1000)
	for _, x := range []struct {
		t    api.Term
		cost int
	}{
		{c, 1}, {c, 0}, {app(c, c), 1}, {app(d, c), 2}, {app(app(d, c), app(c, d)), 2}, {app(c, d), 0}, {let(v(0), v(0), v(0)), 2}, {let(v(0), v(1), v(0)), 2}, {sort(u), 1}, {sort(w), 1}, {sort(u), 0}, {lam(sort(u), sort(maxi(u, w))), 2},
		{api.Term{Kind: 7}, 0}, {app(con("new"), api.Term{Kind: 7}), 0}, {con("new"), 1}, {pi(con("e", u), app(con("e", w), con("e", u))), 4}, {con("e"), 1},
	} {
		ahead := a.Len()
		wantCost(t, a, x.t, x.cost)
		wantCost(t, a, x.t, x.cost)
		wantLen(t, a, ahead)
		a.Add(x.t)
		wantLen(t, a, ahead+x.cost)
		wantCost(t, a, x.t, 0)
	}
}

// P8.1: Term of a number that there is not.
func TestNone(t *testing.T) {
	a := arena.New(10)
	wantNone(t, a, 0)
	wantAdd(t, a, app(c, d), 2)
	wantNone(t, a, -1, 3, 4, 10, math.MinInt, math.MaxInt, -1<<32, 1<<32)
	wantTerm(t, a, 2, app(c, d))
}

// P8.1: most below 0 is as 0: there is room for nothing.
func TestMost(t *testing.T) {
	for _, most := range []int{0, -1, -1000, math.MinInt} {
		keepsNothing(t, arena.New(most))
	}
	for _, most := range []int{1, 2, 3, 1 << 40, math.MaxInt} {
		a := arena.New(most)
		for i := range min(most, 50) {
			wantAdd(t, a, v(i), i)
		}
		if most < 50 {
			wantError(t, a, v(most), api.ErrFull)
		}
	}
}

// keepsNothing: a is an arena without room.
func keepsNothing(t *testing.T, a *arena.Arena) {
	t.Helper()
	wantLen(t, a, 0)
	wantNone(t, a, 0, -1, 1)
	for _, x := range []api.Term{v(0), c, prop} {
		wantError(t, a, x, api.ErrFull)
		wantCost(t, a, x, 1)
	}
	wantError(t, a, app(c, sort(maxi(u, w))), api.ErrFull)
	wantCost(t, a, app(c, sort(maxi(u, w))), 3)
	wantError(t, a, api.Term{Kind: -1}, api.ErrForm)
	wantCost(t, a, api.Term{Kind: -1}, 0)
	wantNone(t, a, 0)
}

// P8.1: a zero Arena is like New(0), and so are its copies.
func TestZero(t *testing.T) {
	zero := &arena.Arena{}
	keepsNothing(t, zero)
	other := zero.Copy()
	if other == nil || other == zero {
		t.Fatal("a copy of a zero Arena is none")
	}
	keepsNothing(t, other)
	keepsNothing(t, zero)
	keepsNothing(t, arena.New(0).Copy())
}

// P8.1: of a nil Arena: ErrArg, 0, nil, whatever is asked.
func TestNil(t *testing.T) {
	var a *arena.Arena
	for _, x := range []api.Term{c, app(c, d), {Kind: 7}, {}, bushy(api.TermApp, api.MaxCells+1, always(c))} {
		wantError(t, a, x, api.ErrArg)
		wantCost(t, a, x, 0)
	}
	for _, id := range []int{-1, 0, 1, math.MaxInt, math.MinInt} {
		if got, e := a.Term(id); !alike(got, api.Term{}) || e != api.ErrArg {
			t.Errorf("Term(%d) of nil: %s, error %d", id, show(got), e)
		}
	}
	wantLen(t, a, 0)
	if a.Copy() != nil {
		t.Error("a copy of nil is one")
	}
}

// P8.1: a Copy is the same, and goes on by itself, as the first one does.
func TestCopy(t *testing.T) {
	a := arena.New(6)
	wantAdd(t, a, app(c, sort(maxi(u, w))), 2)
	b := a.Copy()
	for i, x := range []api.Term{c, sort(maxi(u, w)), app(c, sort(maxi(u, w)))} {
		wantTerm(t, b, i, x)
		wantAdd(t, b, x, i)
	}
	wantLen(t, b, 3)
	wantAdd(t, a, con("a", succ(u)), 3)
	wantLen(t, b, 3)
	wantNone(t, b, 3)
	wantCost(t, b, con("a", succ(u)), 1)
	wantAdd(t, b, con("b", succ(w)), 3)
	wantAdd(t, b, lam(con("b", succ(w)), con("a", succ(u))), 5)
	wantAdd(t, a, v(9), 4)
	wantTerm(t, a, 3, con("a", succ(u)))
	wantTerm(t, b, 3, con("b", succ(w)))
	wantTerm(t, b, 4, con("a", succ(u)))
	wantLen(t, a, 5)
	wantError(t, b, v(0), api.ErrFull) // it has as much room as the first one
	wantAdd(t, a, v(0), 5)
	wantError(t, a, v(1), api.ErrFull)
	wantError(t, a.Copy(), v(1), api.ErrFull)
	wantAdd(t, a.Copy(), v(0), 5)
}

// Copies of copies share nothing, though they grow in turns.
func TestCopies(t *testing.T) {
	all := []*arena.Arena{arena.New(1000)}
	for i := range 8 {
		for k, a := range all {
			wantAdd(t, a, con("c", tall(k, param(i))), i)
		}
		for _, a := range all[:len(all):len(all)] {
			all = append(all, a.Copy())
		}
	}
	for k, a := range all {
		wantLen(t, a, 8)
		for i := range 8 {
			wantTerm(t, a, i, con("c", tall(k&(1<<i-1), param(i))))
		}
	}
}
