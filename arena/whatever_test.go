package arena_test

import (
	"fmt"
	"math"
	"testing"

	"touchstone/api"
	"touchstone/arena"
)

// ring: a term that is below itself, in each of so many Args.
func ring(kind, args int) api.Term {
	list := make([]api.Term, args)
	t := api.Term{Kind: kind, Args: list}
	for i := range list {
		list[i] = t
	}
	return t
}

// ringLevel: a level that is below itself.
func ringLevel(args int) api.Level {
	list := make([]api.Level, args)
	l := api.Level{Kind: api.LevelMax, Args: list}
	for i := range list {
		list[i] = l
	}
	return l
}

// longRing: a level that is below itself, with so many others between, and an end beside each.
func longRing(side, length int) api.Level {
	last := make([]api.Level, 2)
	l := lev(api.LevelMax, last...)
	for range length {
		args := make([]api.Level, 2)
		args[side] = l
		l = lev(api.LevelMax, args...)
	}
	last[side] = l
	return l
}

// R1: each call ends, and none panics, whatever term it is handed; one without end is ErrForm.
func TestWithoutEnd(t *testing.T) {
	all := map[string]api.Term{"of a ring": lam(prop, app(ring(api.TermPi, 2), v(0))), "a ring by one": ring(api.TermApp, 1), "a ring by three": ring(api.TermLet, 3)}
	for kind := -1; kind <= 7; kind++ {
		all[fmt.Sprint("a ring of kind ", kind)] = ring(kind, 2)
		all[fmt.Sprint("a wide ring of kind ", kind)] = ring(kind, 60000)
		doubled := c
		for range 80 {
			doubled = of(kind, doubled, doubled)
		}
		all[fmt.Sprint("doubled of kind ", kind)] = doubled
	}
	for name, l := range map[string]api.Level{"a ring by one": ringLevel(1), "a ring by two": ringLevel(2), "a wide ring": ringLevel(60000), "a long ring": longRing(0, 300000), "a long ring by the other side": longRing(1, 300000), "above a ring": tall(300000, maxi(u, ringLevel(2)))} {
		all["a Sort of "+name] = sort(l)
		all["a Const of "+name] = con("c", u, l, w)
		all["many of "+name] = app(con("c", u), bushy(api.TermApp, api.MaxCells-3, always(con("c", l, l))))
		all["a new one, then "+name] = app(con("new", succ(w)), sort(l))
	}
	a := arena.New(math.MaxInt)
	wantAdd(t, a, con("c", u), 0)
	for name, x := range all {
		cost := a.Cost(x)
		if id, e := a.Add(x); id != 0 || e != api.ErrForm || cost != 0 || a.Len() != 1 {
			t.Errorf("%s: %d, error %d, Cost %d, Len %d", name, id, e, cost, a.Len())
		}
	}
	wantAdd(t, a, con("new", succ(w)), 1)
	wantTerm(t, a, 1, con("new", succ(w)))
}

// R1: Levels that share memory within themselves may have more parts than can be gone through one by one, or told.
// They are kept as others are: it is Term alone that has no room for them.
func TestTooGreatToTell(t *testing.T) {
	a := arena.New(1000)
	many := bushy(api.TermApp, api.MaxCells-3, always(sort(tall(70000, u))))
	for what, x := range map[string][2]api.Term{
		"doubled":                 {sort(doubledLevel(80, u)), sort(doubledLevel(80, w))},
		"doubled, one deeper":     {con("c", doubledLevel(70, u)), con("c", doubledLevel(71, u))},
		"many that share one":     {app(many, con("a")), app(many, con("b"))},
		"2^26 parts and more":     {con("c", doubledLevel(25, u), succ(u)), con("c", doubledLevel(25, u), succ(w))},
		"2^26 parts, in two":      {app(sort(doubledLevel(25, u)), sort(succ(u))), app(sort(doubledLevel(25, u)), sort(succ(w)))},
		"twice the greatest size": {sort(doubledLevel(26, u)), sort(doubledLevel(26, w))},
	} {
		one, e := a.Add(x[0])
		other, e2 := a.Add(x[1])
		again, e3 := a.Add(x[0])
		if one == other || one != again || e != api.OK || e2 != api.OK || e3 != api.OK {
			t.Errorf("%s: %d, %d, %d, errors %d, %d, %d", what, one, other, again, e, e2, e3)
		}
		for _, id := range []int{one, other} {
			if got, e := a.Term(id); !alike(got, api.Term{}) || e != api.ErrLong {
				t.Errorf("%s: Term tells %s, error %d", what, show(got), e)
			}
		}
	}
	wantAdd(t, a, app(v(0), v(1)), a.Len()+2)
	wantTerm(t, a, a.Len()-1, app(v(0), v(1)))
}

// Levels that lie in one another's memory, and are shared by parts, are told apart by what they are.
func TestSharedLevels(t *testing.T) {
	three := []api.Level{u, succ(w), zero}
	a := arena.New(100)
	x := app(app(con("c", three...), con("c", three[:2]...)), app(con("c", three[1:]...), con("c", three[:1]...)))
	wantAdd(t, a, x, 6)
	wantTerm(t, a, 6, x)
	wantAdd(t, a, con("c", u, succ(w)), 1)
	wantAdd(t, a, con("c", succ(w), zero), 3)
	within := lev(api.LevelMax, three[:2]...)
	y := con("d", within, lev(api.LevelMax, three...), within, lev(api.LevelMax, three[:1]...))
	wantAdd(t, a, y, 7)
	wantAdd(t, a, clone(y), 7)
	wantTerm(t, a, 7, y)
}

// Who writes into a term between two calls is told of the new one, though it lies where the other lay.
func TestSamePlace(t *testing.T) {
	a := arena.New(100)
	x := con("c", u, succ(u))
	wantAdd(t, a, x, 0)
	x.Levels[1].Args[0] = w
	wantCost(t, a, x, 1)
	wantAdd(t, a, x, 1)
	x.Levels[1].Args[0] = u
	wantAdd(t, a, x, 0)
}

// overlapping: a level of 2^n parts, whose lists all begin in one place, below each one those that are shorter.
func overlapping(n int) api.Level {
	memory := make([]api.Level, n)
	for i := range memory {
		memory[i] = api.Level{Kind: api.LevelMax, Args: memory[:i]}
	}
	return api.Level{Kind: api.LevelMax, Args: memory}
}

// R1: Levels that lie in one another's memory, and are more than can be gone through, are kept as others are.
func TestOverlapping(t *testing.T) {
	a := arena.New(10)
	for i, n := range []int{0, 1, 2, 3, 12, 18} {
		wantAdd(t, a, sort(overlapping(n)), i)
		wantTerm(t, a, i, sort(overlapping(n)))
	}
	for i, n := range []int{1000, 1001, 1 << 14, 1000, 1 << 14} {
		want := []int{6, 7, 8, 6, 8}[i]
		if id, e := a.Add(sort(overlapping(n))); id != want || e != api.OK {
			t.Errorf("%d that overlap: %d, error %d; want %d", n, id, e, want)
		}
	}
	for id := 6; id <= 8; id++ {
		if got, e := a.Term(id); !alike(got, api.Term{}) || e != api.ErrLong {
			t.Errorf("Term tells %s, error %d", show(got), e)
		}
	}
}
