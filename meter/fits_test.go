package meter_test

import (
	"fmt"
	"math"
	"slices"
	"testing"

	"touchstone/api"
	"touchstone/meter"
)

// wantSize: x has so many parts, and no Level that is greater than may be: it fits just so many cells.
func wantSize(t *testing.T, what string, x api.Term, parts int) {
	t.Helper()
	wantFits(t, what, parts, x, api.OK)
	wantFits(t, what, math.MaxInt, x, api.OK)
	for _, cells := range []int{parts - 1, parts / 2, 0, -1, -parts, math.MinInt} {
		wantFits(t, what, cells, x, api.ErrCells)
	}
}

// P9.1: a term fits just as many cells as it has parts, of whatever kind it is.
func TestFitsSize(t *testing.T) {
	for what, x := range map[string]struct {
		t     api.Term
		parts int
	}{
		"a Var": {v(7), 1}, "a Sort": {sort(zero), 1}, "a Const": {c, 1}, "a Const with Levels": {con("c", param(0), tall(9)), 1},
		"an App": {app(c, d), 3}, "a Lam": {lam(sort(zero), v(0)), 3}, "a Pi": {pi(c, v(0)), 3}, "a Let": {let(c, d, v(0)), 4},
		"an App of Apps": {app(app(c, d), app(d, c)), 7}, "a Lam of a Let": {lam(pi(c, c), let(c, app(d, d), v(1))), 10}, "one part many times": {app(app(c, c), app(c, c)), 7},
	} {
		wantSize(t, what, x.t, x.parts)
	}
}

// P9.1: it is cells alone that a term must fit, whatever the fuel is.
func TestFitsFuel(t *testing.T) {
	for _, fuel := range []int{math.MinInt, -1, 0, 1, 2, 3, 1000, math.MaxInt} {
		for cells, want := range map[int]api.Errno{2: api.ErrCells, 3: api.OK} {
			if e := meter.Fits(api.Meter{Fuel: fuel, Cells: cells}, app(c, d)); e != want {
				t.Errorf("Fits of %d cells, fuel %d: %d, want %d", cells, fuel, e, want)
			}
		}
	}
}

// P9.1: cells of 0, and below 0, are fitted by no term.
func TestFitsNothing(t *testing.T) {
	for _, cells := range []int{0, -1, -2, -api.MaxCells, -1 << 32, math.MinInt + 1, math.MinInt} {
		for _, x := range []api.Term{{}, v(0), c, sort(zero), app(c, d), {Kind: 99}, {Kind: -1}} {
			wantFits(t, fmt.Sprint("of kind ", x.Kind), cells, x, api.ErrCells)
		}
	}
	wantFits(t, "a zero term", 1, api.Term{}, api.OK)
}

// P9.1: terms of just MaxCells parts, and of one more, however they lie.
func TestFitsMaxCells(t *testing.T) {
	for _, n := range []int{api.MaxCells, api.MaxCells + 2} {
		for what, x := range map[string]api.Term{
			"flat":              let(c, c, bushy(api.TermApp, n-3, sort(tall(3)))),
			"deep to the left":  let(v(0), c, leaning(api.TermApp, 0, (n-4)/2, v(1))),
			"deep to the right": let(v(0), c, leaning(api.TermLam, 1, (n-4)/2, v(1))),
			"deep by its type":  let(leaning(api.TermPi, 0, (n-4)/2, v(1)), v(0), c),
		} {
			if size(x) != n {
				t.Fatalf("%s: %d parts", what, size(x))
			}
			wantSize(t, fmt.Sprint(n, " parts, ", what), x, n)
		}
	}
	one := bushy(api.TermApp, api.MaxCells+1, c)
	wantSize(t, "one more than MaxCells", one, api.MaxCells+1)
	if e := meter.Fits(meter.New(0, math.MaxInt), one); e != api.ErrCells {
		t.Errorf("one more than MaxCells, of a meter that New told: %d", e)
	}
}

// anyLevel: a level of whatever kind.
func anyLevel(kind int, args ...api.Level) api.Level { return api.Level{Kind: kind, N: -5, Args: args} }

// levelsWithin: levels that are just as great as may be, each in one way at least.
func levelsWithin() map[string]api.Level {
	return map[string]api.Level{
		"zero": zero, "a parameter": param(3), "a parameter that may not be": param(-1),
		"as deep as may be": tall(api.MaxLevel), "of as many parts as may be": broad(api.MaxParts),
		"of two as deep as may be":        lev(api.LevelMax, tall(api.MaxLevel-1), tall(api.MaxLevel-1)),
		"both at once":                    lev(api.LevelSucc, lev(api.LevelImax, tall(api.MaxLevel-2), broad(api.MaxParts-api.MaxLevel))),
		"deep below its last one":         tallOver(api.MaxLevel-2, lev(api.LevelMax, zero, zero)),
		"wide":                            anyLevel(api.LevelMax, make([]api.Level, api.MaxParts-1)...),
		"wide, of no kind":                anyLevel(99, make([]api.Level, api.MaxParts-1)...),
		"deep, then wide":                 tallOver(api.MaxLevel-2, anyLevel(-1, make([]api.Level, api.MaxParts-api.MaxLevel+1)...)),
		"a Succ of none":                  lev(api.LevelSucc),
		"a parameter with as many as may": anyLevel(api.LevelParam, make([]api.Level, api.MaxParts-1)...),
	}
}

// levelsBeyond: levels that are greater than may be, by one part or by being one deeper.
func levelsBeyond() map[string]api.Level {
	ringed := lev(api.LevelSucc, make([]api.Level, 1)...)
	ringed.Args[0] = ringed
	return map[string]api.Level{
		"too deep": tall(api.MaxLevel + 1), "of too many parts": broad(api.MaxParts + 1),
		"too deep on its first side":      lev(api.LevelMax, tall(api.MaxLevel), zero),
		"too deep on its last side":       lev(api.LevelImax, zero, tall(api.MaxLevel)),
		"of many parts on its last side":  lev(api.LevelMax, zero, broad(api.MaxParts-1)),
		"of many parts on its first side": lev(api.LevelMax, broad(api.MaxParts-1), zero),
		"of two halves":                   lev(api.LevelMax, tall(api.MaxLevel-1), lev(api.LevelSucc, broad(api.MaxParts-api.MaxLevel))),
		"wide":                            anyLevel(api.LevelMax, make([]api.Level, api.MaxParts)...),
		"wide, of no kind":                anyLevel(99, make([]api.Level, api.MaxParts)...),
		"deep, of no kind":                anyLevel(5, anyLevel(-1, tall(api.MaxLevel-1))),
		"a zero with Args":                anyLevel(api.LevelZero, tall(api.MaxLevel)),
		"far too deep":                    tall(200000),
		"far too many parts":              broad(1<<17 + 1),
		"far too wide":                    anyLevel(api.LevelMax, make([]api.Level, 1<<20)...),
		"without end":                     ringed,
	}
}

// withLevel: terms with l in them, and how many parts each has.
func withLevel(l api.Level) map[string]struct {
	t     api.Term
	parts int
} {
	type sized = struct {
		t     api.Term
		parts int
	}
	small := tall(2)
	bad := sort(l)
	return map[string]sized{
		"a Sort": {bad, 1}, "a Const": {con("c", l), 1}, "a Const's first": {con("c", l, small, small, small), 1}, "a Const's second": {con("c", small, l, small), 1}, "a Const's last": {con("c", small, small, small, l), 1},
		"a Const's last of many": {con("c", append(make([]api.Level, 99999), l)...), 1},
		"an App's first":         {app(bad, c), 3}, "an App's last": {app(c, bad), 3}, "a Lam's type": {lam(bad, c), 3}, "a Lam's body": {lam(c, bad), 3}, "a Pi's type": {pi(bad, c), 3}, "a Pi's body": {pi(c, bad), 3},
		"a Let's type": {let(bad, c, c), 4}, "a Let's value": {let(c, bad, c), 4}, "a Let's body": {let(c, c, bad), 4},
		"deep to the left": {leaning(api.TermApp, 0, 3000, bad), 6001}, "deep to the right": {leaning(api.TermPi, 1, 3000, bad), 6001}, "the last of many": {app(bushy(api.TermApp, 4001, sort(small)), con("c", small, l)), 4003},
		"a Var":                       {api.Term{Levels: []api.Level{l}}, 1},
		"an App itself":               {api.Term{Kind: api.TermApp, Levels: []api.Level{small, l}, Args: []api.Term{c, d}}, 3},
		"a Sort's second":             {api.Term{Kind: api.TermSort, Levels: []api.Level{small, l}}, 1},
		"what has no kind":            {api.Term{Kind: 7, Levels: []api.Level{l}}, 1},
		"below what has no kind":      {of(-3, c, of(99, bad)), 4},
		"below a Const":               {api.Term{Kind: api.TermConst, Args: []api.Term{bad}}, 2},
		"the last of an App of eight": {of(api.TermApp, c, c, c, c, c, c, c, bad), 9},
	}
}

// P9.1: a Level in a term may have MaxParts parts and be MaxLevel deep, wherever it stands; its parts are none of the term's.
func TestFitsLevelsWithin(t *testing.T) {
	for name, l := range levelsWithin() {
		if parts, deep := sizeOf(l); parts > api.MaxParts || deep > api.MaxLevel {
			t.Fatalf("%s: %d parts, %d deep", name, parts, deep)
		}
		for where, x := range withLevel(l) {
			wantSize(t, name+", in "+where, x.t, x.parts)
		}
	}
}

// P9.1: no Level in a term may have more parts, or be deeper, wherever it stands, and whatever the cells are.
func TestFitsLevelsBeyond(t *testing.T) {
	for name, l := range levelsBeyond() {
		for where, x := range withLevel(l) {
			for _, cells := range []int{x.parts, x.parts + 1, api.MaxCells, math.MaxInt, x.parts - 1, 0, -1} {
				wantFits(t, name+", in "+where, cells, x.t, api.ErrCells)
			}
		}
	}
}

// P9.1: each Level of a term has all the room that a Level has, whatever stands beside it.
func TestFitsManyLevels(t *testing.T) {
	great := []api.Level{broad(api.MaxParts), tall(api.MaxLevel), broad(api.MaxParts), tall(api.MaxLevel)}
	wantSize(t, "a Const of four", con("c", great...), 1)
	wantSize(t, "a Const of many", con("c", slices.Repeat(great, 1000)...), 1)
	wantSize(t, "an App of two", app(con("c", great...), con("d", great...)), 3)
	wantSize(t, "many of them", bushy(api.TermApp, 5001, con("c", great...)), 5001)
	more := append(slices.Repeat(great, 1000), tall(api.MaxLevel+1))
	wantFits(t, "a Const of many and one more", 1, con("c", more...), api.ErrCells)
}

// P9.1: terms that are not whole have all the parts that stand in them, whatever their Kind names.
func TestFitsNotWhole(t *testing.T) {
	for what, x := range map[string]struct {
		t     api.Term
		parts int
	}{
		"Kind -1": {api.Term{Kind: -1}, 1}, "Kind 7": {api.Term{Kind: 7}, 1}, "the least Kind": {api.Term{Kind: math.MinInt}, 1}, "the greatest Kind": {api.Term{Kind: math.MaxInt}, 1},
		"a Var below 0": {v(-1), 1}, "the least Var": {v(math.MinInt), 1}, "the greatest Var": {v(math.MaxInt), 1}, "a Var with a Name": {api.Term{Name: "a"}, 1}, "a Var with Args": {of(api.TermVar, c, d), 3},
		"a Sort without a Level": {api.Term{Kind: api.TermSort}, 1}, "a Sort with Args": {of(api.TermSort, c), 2}, "a Const with Args": {of(api.TermConst, app(c, d)), 4}, "a Const without a Name": {con(""), 1},
		"an App of none": {of(api.TermApp), 1}, "an App of one": {of(api.TermApp, c), 2}, "an App of three": {of(api.TermApp, c, d, c), 4}, "a Lam of one": {of(api.TermLam, c), 2}, "a Let of two": {of(api.TermLet, c, d), 3}, "a Let of four": {of(api.TermLet, c, d, c, d), 5},
		"Kind 99 with Args": {of(99, c, app(c, d), of(-99, c)), 7}, "very many Args": {of(api.TermApp, make([]api.Term, 300000)...), 300001},
	} {
		wantSize(t, what, x.t, x.parts)
		wantSize(t, what+", below an App", app(c, app(x.t, c)), x.parts+4)
	}
}

// R3: what is handed in stays as it is, also behind the ends of its lists, and nothing of it is kept.
func TestFitsKeepsNothing(t *testing.T) {
	levels := []api.Level{tall(3), param(1), tall(9)}
	args := []api.Term{c, con("d", levels[:2]...), v(5)}
	x := of(api.TermApp, args[:2]...)
	m := api.Meter{Cells: 3}
	wantFits(t, "an App", m.Cells, x, api.OK)
	if x.Kind != api.TermApp || len(x.Args) != 2 || args[2].N != 5 || args[1].Name != "d" || len(args[1].Levels) != 2 || len(levels[2].Args) != 1 || levels[1].N != 1 || m.Cells != 3 {
		t.Errorf("it was changed: %v", args)
	}
	levels[1] = tall(api.MaxLevel + 1)
	wantFits(t, "with a Level that was written into it", 3, x, api.ErrCells)
	levels[1] = param(1)
	wantFits(t, "with the Level of before", 3, x, api.OK)
	args[0] = app(c, d)
	wantFits(t, "with an Arg that was written into it", 3, x, api.ErrCells)
	wantFits(t, "with more cells", 5, x, api.OK)
}
