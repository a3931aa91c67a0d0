package meter_test

import (
	"fmt"
	"math"
	"testing"

	"touchstone/api"
)

// ring: a term that is below itself, in each of so many Args.
func ring(kind, args int) api.Term {
	list := make([]api.Term, args)
	t := api.Term{Kind: kind, Args: list}
	for i := range list {
		list[i] = t
	}
	return t
}

// longRing: a term that is below itself, with so many others between, and a Var beside each.
func longRing(side, length int) api.Term {
	last := make([]api.Term, 2)
	t := of(api.TermApp, last...)
	t = leaning(api.TermLam, side, length, t)
	last[side] = t
	return t
}

// doubled: a term of 2^deep - 1 parts that takes little memory.
func doubled(deep int, leaf api.Term) api.Term {
	for range deep - 1 {
		leaf = app(leaf, leaf)
	}
	return leaf
}

// overlapping: a term of 2^n parts, whose lists all begin in one place, below each one those that are shorter.
func overlapping(n int) api.Term {
	memory := make([]api.Term, n)
	for i := range memory {
		memory[i] = of(api.TermApp, memory[:i]...)
	}
	return of(api.TermApp, memory...)
}

// manyCells: from few cells to all that there can be.
var manyCells = []int{math.MinInt, 0, 1, api.MaxCells, 1 << 31, math.MaxInt}

// P9.1, R1: a term without end has more parts than there are cells, whatever these are, and Fits ends.
func TestFitsWithoutEnd(t *testing.T) {
	all := map[string]api.Term{
		"a ring by one": ring(api.TermApp, 1), "a ring by three": ring(api.TermLet, 3), "a wide ring": ring(api.TermApp, 60000), "a very wide ring": ring(api.TermApp, 1<<20+1),
		"a long ring to the left": longRing(0, 300000), "a long ring to the right": longRing(1, 600000),
		"below others": lam(sort(zero), app(ring(api.TermPi, 2), v(0))), "deep below others": leaning(api.TermPi, 1, 600000, ring(api.TermApp, 2)), "the last of many": app(bushy(api.TermApp, 1<<20+1, c), ring(api.TermApp, 1)),
		"doubled too often": doubled(64, c), "doubled far too often": doubled(5000, c), "overlapping": overlapping(63), "overlapping by far": overlapping(1 << 14),
	}
	for kind := -1; kind <= 7; kind++ {
		all[fmt.Sprint("a ring of kind ", kind)] = ring(kind, 2)
	}
	for what, x := range all {
		for _, cells := range manyCells {
			wantFits(t, what, cells, x, api.ErrCells)
		}
	}
}

// P9.1: terms that are greater than New tells cells are counted as all others are, if a meter has the cells.
func TestFitsGreat(t *testing.T) {
	for _, n := range []int{1<<20 - 1, 1<<20 + 3} {
		for what, x := range map[string]api.Term{
			"flat":              bushy(api.TermApp, n, con("c", tall(2))),
			"deep to the left":  leaning(api.TermApp, 0, n/2, c),
			"deep to the right": leaning(api.TermLam, 1, n/2, sort(zero)),
			"wide":              of(api.TermApp, make([]api.Term, n-1)...),
			"deep by one":       deepByOne(n),
		} {
			wantFits(t, fmt.Sprint(n, " parts, ", what), n, x, api.OK)
			wantFits(t, fmt.Sprint(n, " parts, ", what), n-1, x, api.ErrCells)
			wantFits(t, fmt.Sprint(n, " parts, ", what), api.MaxCells, x, api.ErrCells)
		}
	}
	wantSize(t, "twice as great", bushy(api.TermApp, 1<<21+1, con("c", tall(2))), 1<<21+1)
}

// deepByOne: a term as deep as it has parts.
func deepByOne(parts int) api.Term {
	t := c
	for range parts - 1 {
		t = of(api.TermApp, t)
	}
	return t
}

// P9.1: parts that take one memory are counted as often as they stand there, up to the greatest number.
func TestFitsShared(t *testing.T) {
	for deep := 2; deep <= 63; deep++ {
		parts := 1<<deep - 1
		wantSize(t, fmt.Sprint("doubled ", deep), doubled(deep, c), parts)
		wantFits(t, "doubled, with a great Level", math.MaxInt, doubled(deep, sort(tall(33))), api.ErrCells)
	}
	for n := 1; n < 63; n++ {
		wantSize(t, fmt.Sprint("overlapping ", n), overlapping(n), 1<<n)
	}
	x := doubled(30, con("c", tall(32), broad(64)))
	wantSize(t, "doubled, and others beside", let(x, c, app(x, d)), 2*(1<<30-1)+4)
	wantFits(t, "doubled, and a great Level beside", math.MaxInt, let(x, c, app(x, sort(tall(33)))), api.ErrCells)
	wantFits(t, "doubled, and what has no end beside", math.MaxInt, let(x, c, app(x, ring(api.TermApp, 2))), api.ErrCells)
}

// sharing: so many Consts (an odd number of parts in all), each in memory of its own, with one list of Levels.
func sharing(parts int, levels []api.Level) api.Term {
	return bushy(api.TermApp, parts, con("c", levels...))
}

// P9.1: Levels that many parts share are held against their bounds, and the call ends soon.
func TestFitsSharedLevels(t *testing.T) {
	many := make([]api.Level, 1<<20)
	x := sharing(api.MaxCells-1, many)
	wantFits(t, "many that share many Levels", api.MaxCells-1, x, api.OK)
	wantFits(t, "many that share many Levels, one more than cells", api.MaxCells-2, x, api.ErrCells)
	wantFits(t, "and another great one", api.MaxCells+1, app(x, con("c", append(many[:1<<20:1<<20], tall(33))...)), api.ErrCells)
	wantFits(t, "and a list that begins there, and is longer", api.MaxCells+1, app(x, con("c", many[:5]...)), api.OK)
	many[1<<20-1] = tall(33)
	wantFits(t, "many that share many Levels, one of them great", api.MaxCells-1, x, api.ErrCells)
	wantFits(t, "and those ahead of it alone", api.MaxCells-1, sharing(api.MaxCells-1, many[:1<<20-1]), api.OK)
	wantFits(t, "those ahead of it, then all", api.MaxCells+1, app(sharing(api.MaxCells-1, many[:1<<20-1]), con("c", many...)), api.ErrCells)
	ended := broad(64)
	for range 60 {
		ended = lev(api.LevelMax, ended, ended)
	}
	wantFits(t, "a Level that is doubled", api.MaxCells, sort(ended), api.ErrCells)
}
