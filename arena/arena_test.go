package arena_test

import (
	"math"
	"math/rand"
	"testing"

	"touchstone/api"
	"touchstone/arena"
	"touchstone/term"
)

// wantAdd: Add of x tells that number, and no error.
func wantAdd(t *testing.T, a *arena.Arena, x api.Term, id int) {
	t.Helper()
	if got, e := a.Add(x); got != id || e != api.OK {
		t.Errorf("Add of %s: %d, error %d; want %d", show(x), got, e, id)
	}
}

// wantError: Add of x tells that error, and no number, and changes nothing.
func wantError(t *testing.T, a *arena.Arena, x api.Term, want api.Errno) {
	t.Helper()
	length := a.Len()
	if got, e := a.Add(x); got != 0 || e != want || a.Len() != length {
		t.Errorf("Add of %s: %d, error %d, Len %d; want error %d, Len %d", show(x), got, e, a.Len(), want, length)
	}
}

// wantTerm: x has that number.
func wantTerm(t *testing.T, a *arena.Arena, id int, x api.Term) {
	t.Helper()
	if got, e := a.Term(id); !alike(got, x) || e != api.OK {
		t.Errorf("Term(%d): %s, error %d; want %s", id, show(got), e, show(x))
	}
}

func wantLen(t *testing.T, a *arena.Arena, n int) {
	t.Helper()
	if a.Len() != n {
		t.Errorf("Len is %d; want %d", a.Len(), n)
	}
}

func wantCost(t *testing.T, a *arena.Arena, x api.Term, n int) {
	t.Helper()
	if got := a.Cost(x); got != n {
		t.Errorf("Cost of %s: %d; want %d", show(x), got, n)
	}
}

// wantNone: there is no such number.
func wantNone(t *testing.T, a *arena.Arena, ids ...int) {
	t.Helper()
	for _, id := range ids {
		if got, e := a.Term(id); !alike(got, api.Term{}) || e != api.ErrNone {
			t.Errorf("Term(%d): %s, error %d", id, show(got), e)
		}
	}
}

// P8.1, and the chapter's example.
func TestExample(t *testing.T) {
	a := arena.New(2)
	wantLen(t, a, 0)
	wantAdd(t, a, app(c, c), 1)
	wantLen(t, a, 2)
	wantTerm(t, a, 0, c)
	wantTerm(t, a, 1, app(c, c))
}

// P8.1: Args come ahead of their term, in order, each with what stands below it ahead.
func TestNumbers(t *testing.T) {
	for _, x := range []struct {
		add  api.Term
		kept []api.Term
	}{
		{v(5), []api.Term{v(5)}},
		{app(c, d), []api.Term{c, d, app(c, d)}},
		{lam(d, c), []api.Term{d, c, lam(d, c)}},
		{pi(prop, v(0)), []api.Term{prop, v(0), pi(prop, v(0))}},
		{let(d, v(1), c), []api.Term{d, v(1), c, let(d, v(1), c)}},
		{let(d, d, d), []api.Term{d, let(d, d, d)}},
		{let(d, c, d), []api.Term{d, c, let(d, c, d)}},
		{app(app(c, d), v(0)), []api.Term{c, d, app(c, d), v(0), app(app(c, d), v(0))}},
		{app(c, app(d, v(0))), []api.Term{c, d, v(0), app(d, v(0)), app(c, app(d, v(0)))}},
		{app(app(c, d), app(d, c)), []api.Term{c, d, app(c, d), app(d, c), app(app(c, d), app(d, c))}},
		{app(app(c, c), app(c, c)), []api.Term{c, app(c, c), app(app(c, c), app(c, c))}},
		{let(app(v(0), v(1)), v(1), app(v(2), v(0))), []api.Term{v(0), v(1), app(v(0), v(1)), v(2), app(v(2), v(0)), let(app(v(0), v(1)), v(1), app(v(2), v(0)))}},
		{lam(lam(c, d), pi(c, lam(c, d))), []api.Term{c, d, lam(c, d), pi(c, lam(c, d)), lam(lam(c, d), pi(c, lam(c, d)))}},
	} {
		a := arena.New(len(x.kept))
		wantCost(t, a, x.add, len(x.kept))
		for range 3 {
			wantAdd(t, a, x.add, len(x.kept)-1)
			wantLen(t, a, len(x.kept))
		}
		for i, k := range x.kept {
			wantTerm(t, a, i, k)
			wantAdd(t, a, k, i)
		}
		wantNone(t, a, -1, len(x.kept))
	}
}

// P8.1: what came first keeps its number, whatever comes behind it.
func TestFirstCome(t *testing.T) {
	a := arena.New(100)
	for i, x := range []api.Term{d, v(0), c, app(c, d), app(d, c), lam(v(0), app(c, d)), sort(u)} {
		wantCost(t, a, x, 1)
		wantAdd(t, a, x, i)
	}
	wantCost(t, a, let(app(d, c), prop, app(c, c)), 3)
	wantAdd(t, a, let(app(d, c), prop, app(c, c)), 9)
	wantTerm(t, a, 7, prop)
	wantTerm(t, a, 8, app(c, c))
	wantAdd(t, a, v(0), 1)
	wantLen(t, a, 10)
}

// P8.1: drawn terms, against a list of terms.
func TestDrawn(t *testing.T) {
	r := rand.New(rand.NewSource(8))
	for range 300 {
		m := &model{most: r.Intn(60) - 3}
		a := arena.New(m.most)
		for range 60 {
			x := chance(r, 1+r.Intn(4))
			step(t, a, m, x)
			if r.Intn(9) == 0 {
				aside, other := a.Copy(), m.copy()
				step(t, aside, other, chance(r, 3))
				if r.Intn(2) == 0 { // either of them may go on
					a, m = aside, other
				}
			}
			if t.Failed() {
				return
			}
		}
		for i, x := range m.kept {
			wantTerm(t, a, i, x)
		}
		wantNone(t, a, -1, len(m.kept))
	}
}

// step: Cost, Add, Len and Term of x are as in the model.
func step(t *testing.T, a *arena.Arena, m *model, x api.Term) {
	t.Helper()
	wantCost(t, a, x, m.cost(x))
	wantLen(t, a, len(m.kept))
	id, e := m.add(x)
	if e != api.OK {
		wantError(t, a, x, e)
		return
	}
	wantAdd(t, a, x, id)
	wantTerm(t, a, id, x)
	wantLen(t, a, len(m.kept))
}

// apart: terms no two of which are Equal, that are unlike in one thing or a few.
func apart() map[string]api.Term {
	all := map[string]api.Term{
		"Var 0": v(0), "Var 1": v(1), "a far Var": v(far), "Prop": prop, "a Sort of u": sort(u), "a Sort of w": sort(w),
		"c": c, "d": d, "a Const without a name": con(""), "cc": con("cc"), "a name with 0": con("c\x00"), "a long name": con(string(make([]byte, 5000))), "another long name": con(string(make([]byte, 5001))), "no UTF-8": con("\xff"), "no UTF-8 either": con("\xfe"),
		"App": app(c, d), "Lam": lam(c, d), "Pi": pi(c, d), "App, turned": app(d, c), "App of one": app(c, c), "App of the other": app(d, d),
		"Let": let(c, d, c), "Let, turned": let(c, c, d), "Let, turned once more": let(d, c, c), "Let of one": let(c, c, c), "Let with Var 0 at its end": let(c, d, v(0)), "Let with Var 0 ahead": let(v(0), c, d),
		"App of Vars": app(v(0), v(0)), "App to the left": app(app(c, d), c), "App to the right": app(c, app(d, c)),
	}
	for name, list := range map[string][]api.Level{
		"one": {zero}, "two": {zero, zero}, "three": {zero, zero, zero}, "u": {u}, "u w": {u, w}, "w u": {w, u}, "u u": {u, u}, "u w u": {u, w, u}, "u 0": {u, zero}, "0 u": {zero, u},
		"S0": {succ(zero)}, "SS0": {succ(succ(zero))}, "Su": {succ(u)}, "S0 0": {succ(zero), zero}, "0 S0": {zero, succ(zero)}, "S0 S0": {succ(zero), succ(zero)},
		"M": {maxi(u, w)}, "M turned": {maxi(w, u)}, "I": {lev(api.LevelImax, u, w)}, "M of M": {maxi(maxi(u, w), u)}, "M of M, turned": {maxi(u, maxi(w, u))}, "Mu0": {maxi(u, zero)}, "M0u": {maxi(zero, u)},
		// What may not be is told apart too: whole terms have any Levels.
		"S without Args": {lev(api.LevelSucc)}, "S of two": {lev(api.LevelSucc, zero, zero)}, "M of one": {lev(api.LevelMax, u)}, "M of three": {lev(api.LevelMax, u, w, zero)}, "0 with Args": {lev(api.LevelZero, zero)}, "0 with N": {{N: 1}}, "0 with N below 0": {{N: -1}},
		"Kind 5": {{Kind: 5}}, "Kind -1": {{Kind: -1}}, "the least": {{Kind: math.MinInt, N: math.MinInt}}, "the greatest": {{Kind: math.MaxInt, N: math.MaxInt}}, "p4": {param(4)}, "p-1": {param(-1)}, "p0 with Args": {{Kind: api.LevelParam, Args: []api.Level{zero}}},
		"S0 in a list": {succ(zero), u}, "M of a list, and one behind": {lev(api.LevelMax, zero), u},
	} {
		all["a Const with "+name] = con("c", list...)
		if len(list) == 1 && name != "one" && name != "u" {
			all["a Sort of "+name] = sort(list[0])
		}
		all["below a binder, a Const with "+name] = lam(v(0), con("c", list...))
	}
	return all
}

// What follows: terms are Equal, if and only if their numbers are.
func TestApart(t *testing.T) {
	all := apart()
	a := arena.New(1000)
	numbers := map[int]string{}
	for name, x := range all {
		id, e := a.Add(x)
		if other, there := numbers[id]; there || e != api.OK {
			t.Errorf("%s: %d, error %d, as %q", name, id, e, other)
		}
		numbers[id] = name
	}
	length := a.Len()
	for id, name := range numbers {
		wantAdd(t, a, clone(all[name]), id)
		wantTerm(t, a, id, all[name])
		wantCost(t, a, all[name], 0)
	}
	wantLen(t, a, length)
	for name, x := range all {
		for other, y := range all {
			if term.Equal(x, y) != (name == other) {
				t.Errorf("%s, %s: Equal is %v", name, other, name != other)
			}
		}
	}
}

// What follows, of drawn terms.
func TestApartDrawn(t *testing.T) {
	r := rand.New(rand.NewSource(88))
	a := arena.New(math.MaxInt)
	for range 20000 {
		x, y := chance(r, 3), chance(r, 3)
		one, e := a.Add(x)
		other, e2 := a.Add(y)
		if e != api.OK || e2 != api.OK || (one == other) != term.Equal(x, y) {
			t.Fatalf("%s, %s: %d, %d", show(x), show(y), one, other)
		}
	}
}

// R3: nil and an empty list are one.
func TestEmptyLists(t *testing.T) {
	a := arena.New(100)
	none, some := []api.Level{}, []api.Term{}
	for i, x := range [][2]api.Term{
		{v(0), {Levels: none, Args: some}}, {prop, {Kind: api.TermSort, Levels: []api.Level{{Args: none}}, Args: some}}, {c, {Kind: api.TermConst, Name: "c", Levels: none, Args: some}},
		{app(c, c), {Kind: api.TermApp, Levels: none, Args: []api.Term{c, {Kind: api.TermConst, Name: "c", Levels: none}}}},
		{con("c", u, succ(u)), con("c", api.Level{Kind: api.LevelParam, Args: none}, succ(api.Level{Kind: api.LevelParam, Args: none}))},
	} {
		wantAdd(t, a, x[i%2], i)
		wantAdd(t, a, x[1-i%2], i)
	}
}

// great: levels far beyond those that may be, by what they are, each with end at an end.
func great() map[string]func(end api.Level) api.Level {
	flat := func(place int, end api.Level) api.Level {
		args := make([]api.Level, 100000)
		args[place] = end
		return lev(api.LevelMax, args...)
	}
	return map[string]func(end api.Level) api.Level{
		"33 deep":                 func(end api.Level) api.Level { return tall(32, end) },
		"65 parts":                func(end api.Level) api.Level { return maxi(wide(6, zero), end) },
		"70,001 deep":             func(end api.Level) api.Level { return tall(70000, end) },
		"300,001 deep":            func(end api.Level) api.Level { return tall(300000, end) },
		"131,071 parts":           func(end api.Level) api.Level { return wide(17, end) },
		"deep by its first Args":  func(end api.Level) api.Level { return tilted(0, 70000, end) },
		"deep by its second Args": func(end api.Level) api.Level { return tilted(1, 70000, end) },
		"an end at its end":       func(end api.Level) api.Level { return flat(99999, end) },
		"an end ahead":            func(end api.Level) api.Level { return flat(0, end) },
		"shared parts":            func(end api.Level) api.Level { return doubledLevel(18, end) },
		"a tall one, shared":      func(end api.Level) api.Level { return doubledLevel(1, tall(200000, end)) },
	}
}

// greatTerms: terms with such a level, no two of which are Equal.
func greatTerms(of func(end api.Level) api.Level) (all []api.Term) {
	for _, end := range []api.Level{zero, u, {N: 1}, {Args: []api.Level{zero}}} {
		l := of(end)
		all = append(all, sort(l), con("c", l, w))
	}
	return append(all, con("c", w, of(zero)))
}

// P8.1: terms with great Levels are kept once, and apart where these are unlike at their ends.
func TestGreatLevels(t *testing.T) {
	t.Parallel()
	for what, of := range great() {
		a := arena.New(9)
		for i, x := range greatTerms(of) {
			if id, e := a.Add(x); id != i || e != api.OK {
				t.Errorf("a Level with %s: %d, error %d; want %d", what, id, e, i)
			}
		}
		for i, x := range greatTerms(of) {
			id, e := a.Add(x)
			if got, e2 := a.Term(i); id != i || e != api.OK || e2 != api.OK || !alike(got, x) {
				t.Errorf("a Level with %s, again: %d, errors %d, %d; want %d", what, id, e, e2, i)
			}
		}
	}
}

// P8.1: Levels that are gone through in one call, and are kept in one arena, are told apart though they are many.
func TestManyGreatLevels(t *testing.T) {
	t.Parallel()
	a := arena.New(1000)
	x := c
	for i := range 40 { // what lies in one place is noted, once there is much of it
		l := tall(10000+i%20, param(i%3))
		x = app(app(x, sort(l)), con("c", l, u))
	}
	cost := a.Cost(x)
	id, e := a.Add(x)
	if e != api.OK || id != cost-1 || cost != 1+4*40 {
		t.Errorf("%d, error %d, Cost %d", id, e, cost)
	}
	wantTerm(t, a, id, x)
	wantAdd(t, a, clone(x), id)
}

// P8.1: a Const has as many Levels as it likes.
func TestManyLevels(t *testing.T) {
	a := arena.New(10)
	for i, n := range []int{0, 1, 4, 5, 64, 65, 100000, 100001} {
		x := con("c", make([]api.Level, n)...)
		wantAdd(t, a, x, i)
		wantTerm(t, a, i, x)
	}
	wantAdd(t, a, con("c", make([]api.Level, 64)...), 4)
}
