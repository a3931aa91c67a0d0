package meter_test

import (
	"fmt"
	"math/rand"
	"testing"

	"touchstone/api"
	"touchstone/meter"
	"touchstone/term"
)

var (
	zero = api.Level{}
	c, d = con("c"), con("d")
)

func lev(kind int, args ...api.Level) api.Level { return api.Level{Kind: kind, Args: args} }

func param(n int) api.Level { return api.Level{Kind: api.LevelParam, N: n} }

// tall: a level that is so deep, and has as many parts.
func tall(deep int) api.Level { return tallOver(deep-1, zero) }

// tallOver: a level with so many Succs around end.
func tallOver(succs int, end api.Level) api.Level {
	for range succs {
		end = lev(api.LevelSucc, end)
	}
	return end
}

// broad: a level of so many parts, as flat as Maxes of two and one Succ can be.
func broad(parts int) api.Level {
	switch {
	case parts == 1:
		return param(0)
	case parts%2 == 0:
		return lev(api.LevelSucc, broad(parts-1))
	}
	one := (parts - 1) / 2
	return lev(api.LevelMax, broad(one), broad(parts-1-one))
}

func v(n int) api.Term { return api.Term{Kind: api.TermVar, N: n} }

func sort(l api.Level) api.Term { return api.Term{Kind: api.TermSort, Levels: []api.Level{l}} }

func con(name string, levels ...api.Level) api.Term {
	return api.Term{Kind: api.TermConst, Name: name, Levels: levels}
}

func of(kind int, args ...api.Term) api.Term { return api.Term{Kind: kind, Args: args} }

func app(f, a api.Term) api.Term { return of(api.TermApp, f, a) }

func lam(a, b api.Term) api.Term { return of(api.TermLam, a, b) }

func pi(a, b api.Term) api.Term { return of(api.TermPi, a, b) }

func let(a, b, c api.Term) api.Term { return of(api.TermLet, a, b, c) }

// leaning: leaf, below so many terms of a kind with two Args; it is on that side of each, and on the other one is a Var.
func leaning(kind, side, times int, leaf api.Term) api.Term {
	for range times {
		args := make([]api.Term, 2)
		args[side] = leaf
		leaf = of(kind, args...)
	}
	return leaf
}

// bushy: a term of so many parts (an odd number), as flat as may be, each of its ends leaf.
func bushy(kind, parts int, leaf api.Term) api.Term {
	if parts == 1 {
		return leaf
	}
	one := (parts - 1) / 2
	if one%2 == 0 {
		one--
	}
	return of(kind, bushy(kind, one, leaf), bushy(kind, parts-1-one, leaf))
}

// sizeOf: how many parts a level has; how deep it is.
func sizeOf(l api.Level) (parts, deep int) {
	parts = 1
	for _, a := range l.Args {
		n, k := sizeOf(a)
		parts += n
		deep = max(deep, k)
	}
	return parts, deep + 1
}

// greatLevels: how many of a term's Levels are greater than may be.
func greatLevels(t api.Term) (n int) {
	for _, l := range t.Levels {
		if parts, deep := sizeOf(l); parts > api.MaxParts || deep > api.MaxLevel {
			n++
		}
	}
	for _, a := range t.Args {
		n += greatLevels(a)
	}
	return n
}

func size(t api.Term) int {
	n := 1
	for _, a := range t.Args {
		n += size(a)
	}
	return n
}

// fits: what Fits has to tell of finite terms, as the chapter says it.
func fits(cells int, t api.Term) api.Errno {
	if size(t) > max(cells, 0) || greatLevels(t) > 0 {
		return api.ErrCells
	}
	return api.OK
}

// wantFits: what Fits tells of so many cells and x.
func wantFits(t *testing.T, what string, cells int, x api.Term, want api.Errno) {
	t.Helper()
	if e := meter.Fits(api.Meter{Cells: cells}, x); e != want {
		t.Errorf("%s: Fits of %d cells: %d, want %d", what, cells, e, want)
	}
}

// chanceLevel: a level that is drawn, at most so deep, with any Kind and any count of Args.
func chanceLevel(r *rand.Rand, deep int) api.Level {
	l := api.Level{Kind: r.Intn(7) - 1, N: r.Intn(3) - 1}
	if deep > 1 {
		for range []int{1, 1, 1, 1, 1, 1, 1, 1, 1, 1, 1, 1, 1, 1, 2, 2, 0, 3}[r.Intn(18)] {
			l.Args = append(l.Args, chanceLevel(r, deep-1))
		}
	}
	return l
}

// chance: a term that is drawn, at most so deep, whole or not.
func chance(r *rand.Rand, deep int) api.Term {
	t := api.Term{Kind: r.Intn(9) - 1, N: r.Intn(4) - 1, Name: []string{"", "a"}[r.Intn(2)]}
	for range max(r.Intn(10)-7, 0) {
		t.Levels = append(t.Levels, chanceLevel(r, 1+r.Intn(34)))
	}
	if deep > 1 {
		for range r.Intn(4) {
			t.Args = append(t.Args, chance(r, deep-1))
		}
	}
	return t
}

// P9.1: drawn terms are held against the chapter's words, with cells around their sizes.
func TestDrawn(t *testing.T) {
	r := rand.New(rand.NewSource(9))
	told := map[api.Errno]int{}
	great := 0
	for i := range 8000 {
		x := chance(r, 1+r.Intn(6))
		n := size(x)
		if other := term.Size(x, n); other != n {
			t.Fatalf("drawn %d: %d parts, term.Size tells %d", i, n, other)
		}
		for _, cells := range []int{n - 1, n, n + 1, r.Intn(2*n + 1)} {
			want := fits(cells, x)
			wantFits(t, fmt.Sprint("drawn ", i), cells, x, want)
			told[want]++
		}
		great += min(greatLevels(x), 1)
	}
	if told[api.OK] < 5000 || told[api.ErrCells] < 5000 || great < 500 || great > 6000 {
		t.Errorf("what was drawn tells little: %v, %d with great Levels", told, great)
	}
}

// P9.1: drawn levels, by themselves.
func TestDrawnLevels(t *testing.T) {
	r := rand.New(rand.NewSource(10))
	told := map[api.Errno]int{}
	for i := range 10000 {
		x := sort(chanceLevel(r, 1+r.Intn(40)))
		want := fits(1, x)
		wantFits(t, fmt.Sprint("drawn ", i), 1, x, want)
		told[want]++
	}
	if told[api.OK] < 2000 || told[api.ErrCells] < 2000 {
		t.Errorf("what was drawn tells little: %v", told)
	}
}
