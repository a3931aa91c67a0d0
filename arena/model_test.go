package arena_test

import (
	"fmt"
	"math/rand"
	"slices"

	"touchstone/api"
)

const far = 1 << 30 // the greatest number of a Var that is whole

var (
	zero = api.Level{}
	u, w = param(0), param(1)
	prop = sort(zero)
	c, d = con("c"), con("d")
)

func param(n int) api.Level { return api.Level{Kind: api.LevelParam, N: n} }

func lev(kind int, args ...api.Level) api.Level { return api.Level{Kind: kind, Args: args} }

func succ(l api.Level) api.Level { return lev(api.LevelSucc, l) }

func maxi(a, b api.Level) api.Level { return lev(api.LevelMax, a, b) }

func v(n int) api.Term { return api.Term{Kind: api.TermVar, N: n} }

func sort(l api.Level) api.Term { return api.Term{Kind: api.TermSort, Levels: []api.Level{l}} }

func con(name string, levels ...api.Level) api.Term {
	return api.Term{Kind: api.TermConst, Name: name, Levels: levels}
}

func of(kind int, args ...api.Term) api.Term { return api.Term{Kind: kind, Args: args} }

func app(f, a api.Term) api.Term { return of(api.TermApp, f, a) }

func lam(a, b api.Term) api.Term { return of(api.TermLam, a, b) }

func pi(a, b api.Term) api.Term { return of(api.TermPi, a, b) }

func let(a, b, c api.Term) api.Term { return of(api.TermLet, a, b, c) }

func sameLevel(a, b api.Level) bool {
	return a.Kind == b.Kind && a.N == b.N && slices.EqualFunc(a.Args, b.Args, sameLevel)
}

// alike: all fields are alike.
func alike(a, b api.Term) bool {
	return a.Kind == b.Kind && a.N == b.N && a.Name == b.Name && slices.EqualFunc(a.Levels, b.Levels, sameLevel) && slices.EqualFunc(a.Args, b.Args, alike)
}

func cloneLevels(list []api.Level) []api.Level {
	out := make([]api.Level, len(list))
	for i, l := range list {
		out[i] = api.Level{Kind: l.Kind, N: l.N, Args: cloneLevels(l.Args)}
	}
	return out
}

// clone: the same, in other memory, with empty lists in the place of nil.
func clone(t api.Term) api.Term {
	args := make([]api.Term, len(t.Args))
	for i, a := range t.Args {
		args[i] = clone(a)
	}
	return api.Term{Kind: t.Kind, N: t.N, Name: t.Name, Levels: cloneLevels(t.Levels), Args: args}
}

func size(t api.Term) int {
	n := 1
	for _, a := range t.Args {
		n += size(a)
	}
	return n
}

// show: a term, for what a test tells.
func show(t api.Term) string {
	s := fmt.Sprint(t.Kind, "/", t.N, t.Name)
	if len(t.Levels) > 0 {
		s += fmt.Sprint(t.Levels[:min(len(t.Levels), 9)])[:8]
	}
	for _, a := range t.Args {
		s += " " + show(a)
	}
	return "(" + s[:min(len(s), 300)] + ")"
}

func chanceLevel(r *rand.Rand, deep int) api.Level {
	switch k := r.Intn(5); {
	case deep <= 1 || k == 0:
		return []api.Level{zero, u, w}[r.Intn(3)]
	case k == 1:
		return succ(chanceLevel(r, deep-1))
	default:
		return lev(2+k%2, chanceLevel(r, deep-1), chanceLevel(r, deep-1))
	}
}

// chance: a whole term that is drawn, at most so deep, out of so few that parts come again.
func chance(r *rand.Rand, deep int) api.Term {
	kind := r.Intn(7)
	if deep <= 1 {
		kind = r.Intn(3)
	}
	switch kind {
	case api.TermVar:
		return v(r.Intn(3))
	case api.TermSort:
		return sort(chanceLevel(r, 2))
	case api.TermConst:
		t := con([]string{"a", "b", ""}[r.Intn(3)])
		for range r.Intn(3) {
			t.Levels = append(t.Levels, chanceLevel(r, 2))
		}
		return t
	case api.TermLet:
		return let(chance(r, deep-1), chance(r, deep-1), chance(r, deep-1))
	}
	return of(kind, chance(r, deep-1), chance(r, deep-1))
}

// model: an arena, as the chapter says: a list of terms, of whole ones alone.
type model struct {
	most int
	kept []api.Term
}

// with: what is kept once t is added, room or not.
func (m model) with(t api.Term) []api.Term {
	kept := slices.Clone(m.kept)
	var come func(api.Term)
	come = func(t api.Term) {
		for _, a := range t.Args {
			come(a)
		}
		if indexOf(kept, t) < 0 {
			kept = append(kept, clone(t))
		}
	}
	come(t)
	return kept
}

func indexOf(list []api.Term, t api.Term) int {
	return slices.IndexFunc(list, func(x api.Term) bool { return alike(x, t) })
}

func (m model) cost(t api.Term) int { return len(m.with(t)) - len(m.kept) }

func (m *model) add(t api.Term) (int, api.Errno) {
	kept := m.with(t)
	if len(kept) > max(m.most, 0) {
		return 0, api.ErrFull
	}
	m.kept = kept
	return indexOf(kept, t), api.OK
}

func (m model) copy() *model { return &model{m.most, slices.Clone(m.kept)} }

// bushy: a term of so many parts (an odd number), as flat as can be.
func bushy(kind, parts int, leaf func() api.Term) api.Term {
	if parts <= 1 {
		return leaf()
	}
	left := (parts - 1) / 2
	if left%2 == 0 {
		left--
	}
	return of(kind, bushy(kind, left, leaf), bushy(kind, parts-1-left, leaf))
}

// always: t each time.
func always(t api.Term) func() api.Term { return func() api.Term { return t } }

// rising: Var 0, Var 1, and so on.
func rising() func() api.Term {
	n := -1
	return func() api.Term { n++; return v(n) }
}

// leaning: a term that is so deep by the Args[side] of each part.
func leaning(kind, side, deep int, end api.Term) api.Term {
	for range deep - 1 {
		args := make([]api.Term, []int{0, 0, 0, 2, 2, 2, 3}[kind])
		for i := range args {
			args[i] = prop
		}
		args[side] = end
		end = of(kind, args...)
	}
	return end
}

// tall: so many Succs, one in the other, around end.
func tall(n int, end api.Level) api.Level {
	for range n {
		end = succ(end)
	}
	return end
}

// wide: a level of 2^deep - 1 parts, each in memory of its own, with end at its ends.
func wide(deep int, end api.Level) api.Level {
	if deep == 1 {
		return end
	}
	return maxi(wide(deep-1, end), wide(deep-1, end))
}

// tilted: a level that is so deep by the Args[side] of each part.
func tilted(side, deep int, end api.Level) api.Level {
	for range deep - 1 {
		args := make([]api.Level, 2)
		args[side], args[1-side] = end, succ(w)
		end = lev(api.LevelImax, args...)
	}
	return end
}

// doubledLevel: a level of 2^(n+1) - 1 parts, if end has one, in little memory.
func doubledLevel(n int, end api.Level) api.Level {
	for range n {
		end = maxi(end, end)
	}
	return end
}
