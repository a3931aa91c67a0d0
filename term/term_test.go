package term_test

import (
	"fmt"
	"math"
	"math/rand"
	"slices"
	"strings"
	"testing"

	"touchstone/api"
	"touchstone/term"
)

const far = 1 << 30 // the greatest number of a Var that is whole

var (
	zero = api.Level{}
	u, w = param(0), param(1)
	prop = sort(zero)
	c, d = con("c"), con("d")
)

func param(n int) api.Level { return api.Level{Kind: api.LevelParam, N: n} }

func succ(l api.Level) api.Level { return api.Level{Kind: api.LevelSucc, Args: []api.Level{l}} }

func maxi(a, b api.Level) api.Level { return api.Level{Kind: api.LevelMax, Args: []api.Level{a, b}} }

func v(n int) api.Term { return api.Term{Kind: api.TermVar, N: n} }

func sort(l api.Level) api.Term { return api.Term{Kind: api.TermSort, Levels: []api.Level{l}} }

func con(name string, levels ...api.Level) api.Term {
	return api.Term{Kind: api.TermConst, Name: name, Levels: levels}
}

func of(kind int, args ...api.Term) api.Term { return api.Term{Kind: kind, Args: args} }

func app(f, a api.Term) api.Term { return of(api.TermApp, f, a) }

func lam(a, b api.Term) api.Term { return of(api.TermLam, a, b) }

func pi(a, b api.Term) api.Term { return of(api.TermPi, a, b) }

func let(a, b, c api.Term) api.Term { return of(api.TermLet, a, b, c) }

// leaning: a term that is so deep by the Args[side] of each part.
func leaning(kind, side, deep int, end api.Term) api.Term {
	for range deep - 1 {
		args := make([]api.Term, []int{0, 0, 0, 2, 2, 2, 3}[kind])
		for i := range args {
			args[i] = prop
		}
		args[side] = end
		end = of(kind, args...)
	}
	return end
}

// bushy: a term of so many parts (an odd number), as flat as can be.
func bushy(kind, parts int, leaf api.Term) api.Term {
	if parts <= 1 {
		return leaf
	}
	left := (parts - 1) / 2
	if left%2 == 0 {
		left--
	}
	return of(kind, bushy(kind, left, leaf), bushy(kind, parts-1-left, leaf))
}

func size(t api.Term) int {
	n := 1
	for _, a := range t.Args {
		n += size(a)
	}
	return n
}

func depth(t api.Term) int {
	n := 0
	for _, a := range t.Args {
		n = max(n, depth(a))
	}
	return n + 1
}

func sameLevel(a, b api.Level) bool {
	return a.Kind == b.Kind && a.N == b.N && slices.EqualFunc(a.Args, b.Args, sameLevel)
}

// alike: all fields are alike.
func alike(a, b api.Term) bool {
	return a.Kind == b.Kind && a.N == b.N && a.Name == b.Name && slices.EqualFunc(a.Levels, b.Levels, sameLevel) && slices.EqualFunc(a.Args, b.Args, alike)
}

func cloneLevels(list []api.Level) []api.Level {
	out := make([]api.Level, len(list))
	for i, l := range list {
		out[i] = api.Level{Kind: l.Kind, N: l.N, Args: cloneLevels(l.Args)}
	}
	return out
}

// clone: the same, in other memory, with empty lists in the place of nil.
func clone(t api.Term) api.Term {
	args := make([]api.Term, len(t.Args))
	for i, a := range t.Args {
		args[i] = clone(a)
	}
	return api.Term{Kind: t.Kind, N: t.N, Name: t.Name, Levels: cloneLevels(t.Levels), Args: args}
}

// show: a term, for what a test tells.
func show(t api.Term) string {
	s := fmt.Sprint(t.Kind)
	if t.Kind == api.TermVar {
		s = fmt.Sprint("#", t.N)
	} else if t.N != 0 {
		s += fmt.Sprint("/", t.N)
	}
	s += t.Name
	if len(t.Levels) > 0 {
		s += fmt.Sprint(t.Levels)
	}
	for _, a := range t.Args {
		s += " " + show(a)
	}
	if len(t.Args) > 0 {
		s = "(" + s + ")"
	}
	return s[:min(len(s), 300)]
}

func chanceLevel(r *rand.Rand, deep int) api.Level {
	switch k := r.Intn(5); {
	case deep <= 1 || k == 0:
		return []api.Level{zero, u, w, param(2), param(3)}[r.Intn(5)]
	case k == 1:
		return succ(chanceLevel(r, deep-1))
	default:
		return api.Level{Kind: 2 + k%2, Args: []api.Level{chanceLevel(r, deep-1), chanceLevel(r, deep-1)}}
	}
}

// chance: a term that is drawn, at most so deep; around it stand so many binders, and some.
func chance(r *rand.Rand, deep, binders int) api.Term {
	kind := r.Intn(7)
	if deep <= 1 {
		kind = r.Intn(3)
	}
	next := func(more int) api.Term { return chance(r, deep-1, binders+more) }
	switch kind {
	case api.TermVar:
		return v(r.Intn(binders + 3))
	case api.TermSort:
		return sort(chanceLevel(r, 3))
	case api.TermConst:
		t := con(string(rune('a' + r.Intn(5))))
		for range r.Intn(3) {
			t.Levels = append(t.Levels, chanceLevel(r, 3))
		}
		return t
	case api.TermApp:
		return app(next(0), next(0))
	case api.TermLam:
		return lam(next(0), next(1))
	case api.TermPi:
		return pi(next(0), next(1))
	}
	return let(next(0), next(0), next(1))
}

// samples: terms of each kind, and some hundreds that are drawn.
func samples(seed int64) []api.Term {
	all := []api.Term{
		v(0), v(1), v(7), prop, sort(maxi(succ(u), w)), c, con("c", u), con("d", w, zero, succ(u), maxi(u, w)),
		app(v(0), v(1)), lam(v(0), v(0)), pi(v(1), v(1)), let(v(0), v(0), v(0)), let(v(1), v(2), app(v(0), v(1))),
		lam(prop, lam(v(0), app(app(v(0), v(1)), app(v(2), v(3))))), app(app(app(c, v(0)), prop), lam(c, d)),
	}
	r := rand.New(rand.NewSource(seed))
	for range 400 {
		all = append(all, chance(r, 2+r.Intn(6), 0))
	}
	return all
}

// node: a term in which each Var knows its binder, or its number as seen from outside.
// What is put in it needs no lifting.
type node struct {
	term   api.Term // without Args
	args   []*node
	binder *node // of a Var; nil: it is free
	free   int
}

// binds: the binders around Args[i] of n, around which these stand.
func (n *node) binds(i int, around []*node) []*node {
	k := n.term.Kind
	if (k == api.TermLam || k == api.TermPi) && i == 1 || k == api.TermLet && i == 2 {
		return append(slices.Clone(around), n)
	}
	return around
}

// tied: t as nodes.
func tied(t api.Term, around []*node) *node {
	n := &node{term: t}
	n.term.Args = nil
	if t.Kind == api.TermVar {
		if t.N < len(around) {
			n.binder = around[len(around)-1-t.N]
		}
		n.free = t.N - len(around)
	}
	for i, a := range t.Args {
		n.args = append(n.args, tied(a, n.binds(i, around)))
	}
	return n
}

// loose: the term of n, its free Vars as turn says.
func (n *node) loose(around []*node, turn func(free int) *node) api.Term {
	t := n.term
	if t.Kind == api.TermVar && n.binder == nil {
		if m := turn(n.free); m.term.Kind != api.TermVar || m.binder != nil {
			return m.loose(around, func(free int) *node { return &node{free: free} })
		} else {
			return v(m.free + len(around))
		}
	}
	if t.Kind == api.TermVar {
		at := slices.Index(around, n.binder)
		return v(len(around) - 1 - at)
	}
	for i, a := range n.args {
		t.Args = append(t.Args, a.loose(n.binds(i, around), turn))
	}
	return t
}

// lifted: Lift, as the chapter says.
func lifted(t api.Term, by, from int) api.Term {
	return tied(t, nil).loose(nil, func(free int) *node {
		if free >= from {
			free += by
		}
		return &node{free: free}
	})
}

// putIn: Put, as the chapter says.
func putIn(t, x api.Term) api.Term {
	return tied(t, nil).loose(nil, func(free int) *node {
		if free == 0 {
			return tied(x, nil)
		}
		return &node{free: free - 1}
	})
}

// uses: Uses, as the chapter says.
func (n *node) uses(i int) bool {
	if n.term.Kind == api.TermVar && n.binder == nil && n.free == i {
		return true
	}
	return slices.ContainsFunc(n.args, func(a *node) bool { return a.uses(i) })
}

func want(t *testing.T, what string, got, want api.Term) {
	t.Helper()
	if !alike(got, want) {
		t.Errorf("%s: %s; want %s", what, show(got), show(want))
	}
}

// may: a term, what stands around it, and what May tells.
type may struct {
	t               api.Term
	binders, params int
	want            api.Errno
}

func (m may) run(t *testing.T) {
	t.Helper()
	if e := term.May(m.t, m.binders, m.params); e != m.want {
		t.Errorf("May(%s, %d, %d): %d; want %d", show(m.t), m.binders, m.params, e, m.want)
	}
}

// P5.1: terms of each kind that may be.
func TestMay(t *testing.T) {
	for _, m := range []may{
		{t: v(0), binders: 1}, {t: v(4), binders: 5}, {t: v(far), binders: far + 1}, {t: v(far), binders: math.MaxInt},
		{t: prop}, {t: sort(param(3)), params: 4}, {t: sort(param(3)), params: 99}, {t: sort(maxi(u, succ(w))), params: 2},
		{t: c}, {t: con("c", zero)}, {t: con("c", u, w, param(2), param(3)), params: 4}, {t: con(strings.Repeat("n", 24))}, {t: con("1 no name (7)")},
		{t: app(c, d)}, {t: lam(prop, v(0))}, {t: pi(prop, v(0))}, {t: let(prop, c, v(0))},
		{t: api.Term{Kind: api.TermConst, Name: "c", Levels: []api.Level{}, Args: []api.Term{}}}, {t: clone(lam(prop, app(v(0), c)))},
		{t: lam(pi(prop, v(0)), let(pi(prop, v(1)), v(0), app(v(1), v(0))))},
		{t: bushy(api.TermApp, 1999, c)}, {t: let(prop, c, bushy(api.TermPi, 1997, c))}, {t: pi(bushy(api.TermApp, 1995, c), let(c, c, d))},
		{t: leaning(api.TermApp, 0, 100, c)}, {t: leaning(api.TermApp, 1, 100, c)}, {t: leaning(api.TermLam, 1, 100, v(98))}, {t: leaning(api.TermLet, 2, 100, v(98))},
		{t: let(c, c, bushy(api.TermApp, 1997, c))}, // 2000 parts
	} {
		m.run(t)
	}
}

// notWhole: terms that are not whole, each by one fault.
func notWhole() map[string]api.Term {
	all := map[string]api.Term{
		"a kind of 7": {Kind: 7}, "a kind of -1": {Kind: -1}, "the greatest kind": {Kind: math.MaxInt}, "the least kind": {Kind: math.MinInt},
		"a kind of 7 with Args": of(7, c, c), "a Var below 0": v(-1), "the least Var": v(math.MinInt), "a Var above 2^30": v(far + 1), "the greatest Var": v(math.MaxInt),
		"a Var with a Name": {Name: "x"}, "a Var with a Level": {Levels: []api.Level{zero}},
		"a Sort without a Level": {Kind: api.TermSort}, "a Sort with two": {Kind: api.TermSort, Levels: []api.Level{zero, zero}},
		"a Sort with a Name": {Kind: api.TermSort, Name: "x", Levels: []api.Level{zero}}, "a Sort with an N": {Kind: api.TermSort, N: 1, Levels: []api.Level{zero}},
		"a Const with an N": {Kind: api.TermConst, Name: "c", N: 1}, "a Const with an N below": {Kind: api.TermConst, Name: "c", N: -1},
	}
	for kind, n := range []int{0, 0, 0, 2, 2, 2, 3} {
		for args := range 5 {
			t := api.Term{Kind: kind, Args: slices.Repeat([]api.Term{c}, args)}
			if kind == api.TermSort {
				t.Levels = []api.Level{zero}
			}
			if args != n {
				all[fmt.Sprint("kind ", kind, " with ", args, " Args")] = t
				continue
			}
			if kind >= api.TermApp {
				named, numbered, leveled := t, t, t
				named.Name, numbered.N, leveled.Levels = "x", 1, []api.Level{zero}
				all[fmt.Sprint("kind ", kind, " with a Name")] = named
				all[fmt.Sprint("kind ", kind, " with an N")] = numbered
				all[fmt.Sprint("kind ", kind, " with a Level")] = leveled
			}
		}
	}
	return all
}

// P5.1: ErrForm, at each place of a term.
func TestMayNotWhole(t *testing.T) {
	for name, x := range notWhole() {
		for where, in := range map[string]api.Term{
			"itself": x, "applied": app(x, c), "an argument": app(c, x), "a Lam's type": lam(x, c), "a Lam's body": lam(c, x), "a Pi's type": pi(x, c), "a Pi's body": pi(c, x),
			"a Let's type": let(x, c, c), "a Let's value": let(c, x, c), "a Let's body": let(c, c, x), "deep": app(lam(prop, pi(c, app(d, x))), c),
		} {
			if e := term.May(in, far+1, 4); e != api.ErrForm {
				t.Errorf("%s, %s: %d", name, where, e)
			}
		}
	}
}

// P5.1: each of the other errors, at its edge.
func TestMayNot(t *testing.T) {
	deepLevel := zero
	for range 32 {
		deepLevel = succ(deepLevel)
	}
	for _, m := range []may{
		{bushy(api.TermApp, 2001, c), 0, 0, api.ErrLong}, {let(c, c, bushy(api.TermApp, 1999, c)), 0, 0, api.ErrLong}, {bushy(api.TermPi, 500001, c), 0, 0, api.ErrLong},
		{leaning(api.TermApp, 0, 101, c), 0, 0, api.ErrDeep}, {leaning(api.TermApp, 1, 101, c), 0, 0, api.ErrDeep}, {leaning(api.TermLam, 0, 101, c), 0, 0, api.ErrDeep},
		{leaning(api.TermPi, 1, 101, c), 0, 0, api.ErrDeep}, {leaning(api.TermLet, 0, 101, c), 0, 0, api.ErrDeep}, {leaning(api.TermLet, 1, 101, c), 0, 0, api.ErrDeep}, {leaning(api.TermLet, 2, 101, c), 0, 0, api.ErrDeep},
		{v(0), 0, 0, api.ErrScope}, {v(5), 5, 0, api.ErrScope}, {v(far), far, 0, api.ErrScope}, {app(c, v(2)), 2, 0, api.ErrScope},
		{v(0), -1, 0, api.ErrScope}, {v(0), math.MinInt, 0, api.ErrScope},
		{sort(u), 0, 0, api.ErrLevel}, {sort(u), 0, -1, api.ErrLevel}, {sort(w), 0, 1, api.ErrLevel}, {sort(param(4)), 0, 99, api.ErrLevel}, {sort(api.Level{Kind: 9}), 0, 4, api.ErrLevel},
		{sort(deepLevel), 0, 4, api.ErrLevel}, {con("c", zero, w), 0, 1, api.ErrLevel}, {con("c", zero, zero, zero, zero, zero), 0, 4, api.ErrLevel}, {lam(prop, sort(param(-1))), 0, 4, api.ErrLevel},
		{con(""), 0, 0, api.ErrName}, {con(strings.Repeat("n", 25)), 0, 0, api.ErrName}, {con("", zero), 0, 0, api.ErrName}, {app(c, con("")), 0, 0, api.ErrName},
	} {
		m.run(t)
	}
}

// P5.1: what binds what: below a Lam, a Pi, a Let, and beside.
func TestMayBinders(t *testing.T) {
	for _, m := range []may{
		{lam(v(0), c), 0, 0, api.ErrScope}, {lam(v(0), c), 1, 0, api.OK}, {lam(c, v(0)), 0, 0, api.OK}, {lam(c, v(1)), 0, 0, api.ErrScope}, {lam(c, v(1)), 1, 0, api.OK},
		{pi(v(0), c), 0, 0, api.ErrScope}, {pi(v(0), c), 1, 0, api.OK}, {pi(c, v(0)), 0, 0, api.OK}, {pi(c, v(1)), 0, 0, api.ErrScope}, {pi(c, v(1)), 1, 0, api.OK},
		{let(v(0), c, c), 0, 0, api.ErrScope}, {let(c, v(0), c), 0, 0, api.ErrScope}, {let(v(0), v(0), c), 1, 0, api.OK}, {let(c, c, v(0)), 0, 0, api.OK}, {let(c, c, v(1)), 0, 0, api.ErrScope}, {let(c, c, v(1)), 1, 0, api.OK},
		{app(lam(c, v(0)), v(0)), 0, 0, api.ErrScope}, {app(v(0), lam(c, v(0))), 0, 0, api.ErrScope}, {app(lam(c, v(0)), pi(c, v(0))), 0, 0, api.OK},
		{lam(c, v(0)), -3, 0, api.OK}, {lam(c, v(1)), -3, 0, api.ErrScope}, {pi(c, v(0)), -1, 0, api.OK}, {let(c, c, v(0)), math.MinInt, 0, api.OK}, {let(c, c, v(1)), -1, 0, api.ErrScope},
		{lam(c, pi(v(0), let(v(1), v(1), app(v(2), v(0))))), 0, 0, api.OK}, {lam(c, pi(v(0), let(v(1), v(1), v(3)))), 0, 0, api.ErrScope}, {lam(c, pi(v(0), let(v(2), v(1), v(0)))), 0, 0, api.ErrScope},
		{lam(c, pi(v(1), c)), 0, 0, api.ErrScope}, {lam(c, v(far)), far, 0, api.OK}, {lam(c, v(far)), far - 1, 0, api.ErrScope}, {lam(c, v(far)), math.MaxInt, 0, api.OK},
	} {
		m.run(t)
	}
}

// P5.1: of several errors the first is told.
func TestMayOrder(t *testing.T) {
	bad := api.Term{Kind: 7}
	long, deep := bushy(api.TermApp, 2001, c), leaning(api.TermApp, 1, 101, c)
	both := leaning(api.TermLet, 2, 1001, c)
	for _, m := range []may{
		// not whole and too great, too deep, or wrong elsewhere
		{app(bad, long), 0, 0, api.ErrForm}, {app(long, bad), 0, 0, api.ErrForm}, {leaning(api.TermPi, 1, 3000, bad), 0, 0, api.ErrForm}, {app(bushy(api.TermApp, 300001, c), bad), 0, 0, api.ErrForm},
		{app(deep, bad), 0, 0, api.ErrForm}, {leaning(api.TermLam, 1, 101, bad), 0, 0, api.ErrForm},
		{app(v(0), bad), 0, 0, api.ErrForm}, {app(sort(u), bad), 0, 0, api.ErrForm}, {app(con(""), bad), 0, 0, api.ErrForm},
		// too long and too deep, or wrong elsewhere
		{both, 0, 0, api.ErrLong}, {app(deep, long), 0, 0, api.ErrLong}, {app(long, deep), 0, 0, api.ErrLong}, {app(v(0), long), 0, 0, api.ErrLong}, {app(app(sort(u), con("")), long), 0, 0, api.ErrLong},
		// too deep and wrong elsewhere
		{app(v(0), deep), 0, 0, api.ErrDeep}, {app(sort(u), deep), 0, 0, api.ErrDeep}, {app(con(""), deep), 0, 0, api.ErrDeep}, {leaning(api.TermLam, 1, 101, v(200)), 0, 0, api.ErrDeep},
		// part by part: a Var, a Level, a Name, in each order
		{app(v(0), sort(u)), 0, 0, api.ErrScope}, {app(sort(u), v(0)), 0, 0, api.ErrLevel}, {app(v(0), con("")), 0, 0, api.ErrScope}, {app(con(""), v(0)), 0, 0, api.ErrName},
		{app(sort(u), con("")), 0, 0, api.ErrLevel}, {app(con(""), sort(u)), 0, 0, api.ErrName}, {con("", u), 0, 0, api.ErrLevel}, {con("", zero, zero, zero, zero, zero), 0, 0, api.ErrLevel},
		{lam(sort(u), v(9)), 0, 0, api.ErrLevel}, {lam(v(9), sort(u)), 0, 0, api.ErrScope}, {pi(con(""), v(9)), 0, 0, api.ErrName}, {pi(v(9), con("")), 0, 0, api.ErrScope},
		{let(c, con(""), v(9)), 0, 0, api.ErrName}, {let(v(9), con(""), sort(u)), 0, 0, api.ErrScope}, {let(c, sort(u), con("")), 0, 0, api.ErrLevel},
		// a part that is below the first Arg comes ahead of the second one
		{app(app(app(c, sort(u)), c), v(0)), 0, 0, api.ErrLevel}, {app(app(c, app(d, v(0))), con("")), 0, 0, api.ErrScope}, {app(lam(prop, app(v(0), con(""))), v(3)), 0, 0, api.ErrName},
	} {
		m.run(t)
	}
}

// P5.2: Size and Depth at most, above it, and with most below 0.
func TestSizeDepth(t *testing.T) {
	for _, x := range append(samples(1), bushy(api.TermApp, 1999, c), leaning(api.TermLam, 1, 300, c), leaning(api.TermLet, 0, 300, c), leaning(api.TermApp, 0, 70000, c)) {
		n, k := size(x), depth(x)
		for _, most := range []int{math.MinInt, -1, 0, 1, 2, n - 1, n, n + 1, k - 1, k, k + 1, 1 << 20, math.MaxInt} {
			at := max(most, 0)
			if got, want := term.Size(x, most), min(n-1, at)+1; got != want {
				t.Fatalf("Size(%s, %d): %d; want %d", show(x), most, got, want)
			}
			if got, want := term.Depth(x, most), min(k-1, at)+1; got != want {
				t.Fatalf("Depth(%s, %d): %d; want %d", show(x), most, got, want)
			}
		}
	}
}

// P5.2: the numbers of terms that a reader can count.
func TestSizeDepthOf(t *testing.T) {
	for _, x := range []struct {
		t          api.Term
		size, deep int
	}{
		{v(5), 1, 1}, {prop, 1, 1}, {sort(maxi(u, succ(w))), 1, 1}, {con("c", u, w), 1, 1}, {app(c, d), 3, 2}, {lam(c, app(c, d)), 5, 3}, {pi(app(c, d), c), 5, 3},
		{let(c, c, c), 4, 2}, {let(c, app(c, app(c, c)), lam(c, c)), 10, 4}, {app(app(app(c, c), c), app(c, c)), 9, 4},
	} {
		if n, k := term.Size(x.t, 99), term.Depth(x.t, 99); n != x.size || k != x.deep {
			t.Errorf("%s: %d parts, %d deep; want %d, %d", show(x.t), n, k, x.size, x.deep)
		}
	}
}

// P5.2: a term that is greater than most is not walked to its end.
func TestSizeOfGreat(t *testing.T) {
	great := doubled(api.TermApp, 100, c)
	if n := term.Size(great, 5000); n != 5001 {
		t.Errorf("Size: %d", n)
	}
	if n := term.Size(great, -1); n != 1 {
		t.Errorf("Size below 0: %d", n)
	}
	if n := term.Depth(ring(api.TermPi, 2), 5000); n != 5001 {
		t.Errorf("Depth: %d", n)
	}
}

// P5.2: Equal asks all fields, at each place, and takes nil as empty.
func TestEqual(t *testing.T) {
	all := samples(2)
	for _, a := range all {
		for _, b := range all {
			if term.Equal(a, clone(b)) != alike(a, b) {
				t.Fatalf("Equal of %s, %s: %v", show(a), show(b), !alike(a, b))
			}
		}
	}
	for _, p := range [][2]api.Term{
		{v(0), v(1)}, {v(0), prop}, {v(0), con("")}, {c, d}, {c, con("c", zero)}, {con("c", u), con("c", w)}, {con("c", u, w), con("c", w, u)}, {con("c", u), con("c", u, u)},
		{prop, sort(succ(zero))}, {sort(maxi(u, w)), sort(maxi(w, u))}, {sort(maxi(u, u)), sort(u)}, {app(c, d), app(d, c)}, {lam(c, d), pi(c, d)}, {app(c, d), lam(c, d)},
		{let(c, c, d), let(c, d, d)}, {let(c, c, c), app(c, c)}, {v(0), {Name: "x"}}, {v(0), {Levels: []api.Level{zero}}}, {v(0), {Args: []api.Term{v(0)}}},
	} {
		for _, q := range [][2]api.Term{p, {p[1], p[0]}, {lam(c, p[0]), lam(c, p[1])}, {app(p[0], c), app(p[1], c)}, {let(c, p[0], c), let(c, p[1], c)}} {
			if term.Equal(q[0], q[1]) {
				t.Errorf("Equal: %s, %s", show(q[0]), show(q[1]))
			}
		}
	}
	none, empty := api.Term{Kind: api.TermConst, Name: "c"}, api.Term{Kind: api.TermConst, Name: "c", Levels: []api.Level{}, Args: []api.Term{}}
	bare := sort(api.Level{Args: []api.Level{}})
	if !term.Equal(none, empty) || !term.Equal(empty, none) || !term.Equal(app(none, empty), app(empty, none)) || !term.Equal(prop, bare) || !term.Equal(bare, prop) {
		t.Error("nil is not as empty")
	}
	great := leaning(api.TermPi, 1, 60000, v(3))
	if !term.Equal(great, clone(great)) || term.Equal(great, leaning(api.TermPi, 1, 60000, v(4))) {
		t.Error("Equal of great terms")
	}
}

// P5.3: Lift below binders, from a number on, with by and from beyond their bounds.
func TestLift(t *testing.T) {
	under := lam(v(1), pi(v(2), let(v(2), v(3), app(app(v(0), v(1)), app(v(2), app(v(3), v(4)))))))
	for _, x := range []struct {
		t        api.Term
		by, from int
		want     api.Term
	}{
		{v(0), 1, 0, v(1)}, {v(0), 1, 1, v(0)}, {v(1), 1, 1, v(2)}, {v(7), 5, 3, v(12)}, {v(2), 5, 3, v(2)}, {v(3), 0, 0, v(3)},
		{prop, 5, 0, prop}, {con("c", u), 5, 0, con("c", u)}, {app(v(0), v(1)), 2, 1, app(v(0), v(3))},
		{lam(v(0), v(0)), 3, 0, lam(v(3), v(0))}, {lam(v(0), v(1)), 3, 0, lam(v(3), v(4))}, {lam(v(0), v(1)), 3, 1, lam(v(0), v(1))}, {lam(v(1), v(2)), 3, 1, lam(v(4), v(5))},
		{pi(v(0), v(0)), 3, 0, pi(v(3), v(0))}, {pi(v(0), v(1)), 3, 0, pi(v(3), v(4))}, {let(v(0), v(0), v(0)), 3, 0, let(v(3), v(3), v(0))}, {let(v(0), v(1), v(1)), 3, 0, let(v(3), v(4), v(4))},
		{under, 10, 0, lam(v(11), pi(v(12), let(v(12), v(13), app(app(v(0), v(1)), app(v(2), app(v(13), v(14)))))))},
		{under, 10, 1, lam(v(11), pi(v(12), let(v(2), v(13), app(app(v(0), v(1)), app(v(2), app(v(3), v(14)))))))},
		{under, 10, 2, lam(v(1), pi(v(2), let(v(2), v(3), app(app(v(0), v(1)), app(v(2), app(v(3), v(4)))))))},
		{v(0), -1, 0, v(0)}, {v(4), math.MinInt, 0, v(4)}, {v(0), 2, -1, v(2)}, {v(0), 2, math.MinInt, v(2)}, {lam(c, app(v(0), v(1))), 2, -1, lam(c, app(v(0), v(3)))}, {lam(c, app(v(0), v(1))), -2, -1, lam(c, app(v(0), v(1)))},
		{v(1), far, 0, v(far + 1)}, {v(1), far + 1, 0, v(far + 1)}, {v(1), math.MaxInt, 0, v(far + 1)}, {lam(c, v(1)), math.MaxInt, 0, lam(c, v(far+1))}, {v(far), math.MaxInt, 0, v(2 * far)},
		{v(far), 1, far, v(far + 1)}, {v(far), 1, far + 1, v(far + 1)}, {v(far), 1, math.MaxInt, v(far + 1)}, {v(far - 1), 1, math.MaxInt, v(far - 1)}, {v(far), math.MaxInt, math.MaxInt, v(2 * far)},
		{lam(c, v(far)), 1, math.MaxInt, lam(c, v(far))}, {lam(c, v(far)), 1, far - 1, lam(c, v(far+1))},
	} {
		want(t, fmt.Sprintf("Lift(%s, %d, %d)", show(x.t), x.by, x.from), term.Lift(x.t, x.by, x.from), x.want)
	}
}

// P5.3: Put below binders, of terms with free Vars of their own.
func TestPut(t *testing.T) {
	for _, x := range []struct{ t, v, want api.Term }{
		{app(v(0), v(1)), c, app(c, v(0))}, {v(0), v(5), v(5)}, {v(1), c, v(0)}, {v(7), c, v(6)}, {v(far), c, v(far - 1)}, {v(0), v(far), v(far)},
		{prop, c, prop}, {con("c", u), d, con("c", u)}, {v(0), con("c", u, w), con("c", u, w)},
		{lam(v(0), v(0)), c, lam(c, v(0))}, {lam(v(0), v(1)), c, lam(c, c)}, {lam(v(1), v(2)), c, lam(v(0), v(1))},
		{lam(v(0), app(v(0), app(v(1), v(2)))), v(3), lam(v(3), app(v(0), app(v(4), v(1))))},
		{pi(v(0), app(v(0), app(v(1), v(2)))), v(3), pi(v(3), app(v(0), app(v(4), v(1))))},
		{let(v(0), app(v(0), v(1)), app(v(0), app(v(1), v(2)))), v(3), let(v(3), app(v(3), v(0)), app(v(0), app(v(4), v(1))))},
		{lam(prop, pi(v(1), let(v(2), v(2), v(3)))), app(v(0), v(7)), lam(prop, pi(app(v(1), v(8)), let(app(v(2), v(9)), app(v(2), v(9)), app(v(3), v(10)))))},
		{lam(prop, v(1)), lam(v(0), app(v(0), v(1))), lam(prop, lam(v(1), app(v(0), v(2))))},
		{lam(prop, v(1)), let(v(0), v(1), app(v(0), v(2))), lam(prop, let(v(1), v(2), app(v(0), v(3))))},
		{app(v(0), v(0)), v(0), app(v(0), v(0))}, {lam(c, v(0)), v(9), lam(c, v(0))},
	} {
		want(t, fmt.Sprintf("Put(%s, %s)", show(x.t), show(x.v)), term.Put(x.t, x.v), x.want)
	}
}

// P5.3: Uses below binders, and of numbers that no Var has.
func TestUses(t *testing.T) {
	under := lam(v(1), pi(v(3), let(v(5), v(6), app(v(0), v(7)))))
	for i, want := range map[int]bool{math.MinInt: false, -3: false, -1: false, 0: false, 1: true, 2: true, 3: true, 4: true, 5: false, 6: false, 7: false, math.MaxInt: false} {
		if term.Uses(under, i) != want {
			t.Errorf("Uses(%s, %d): %v", show(under), i, !want)
		}
	}
	for _, x := range []struct {
		t    api.Term
		i    int
		want bool
	}{
		{v(0), 0, true}, {v(0), 1, false}, {v(0), -1, false}, {v(far), far, true}, {prop, 0, false}, {c, 0, false}, {app(c, v(3)), 3, true}, {app(v(3), c), 3, true},
		{lam(c, v(0)), 0, false}, {lam(c, v(0)), -1, false}, {lam(c, v(1)), 0, true}, {lam(c, v(1)), 1, false}, {lam(v(1), c), 1, true}, {lam(v(0), v(0)), 0, true},
		{pi(c, v(0)), 0, false}, {pi(c, v(1)), 0, true}, {pi(v(1), c), 1, true}, {let(c, c, v(0)), 0, false}, {let(c, c, v(1)), 0, true}, {let(c, v(0), c), 0, true}, {let(v(0), c, c), 0, true}, {let(c, v(1), c), 0, false},
	} {
		if term.Uses(x.t, x.i) != x.want {
			t.Errorf("Uses(%s, %d): %v", show(x.t), x.i, !x.want)
		}
	}
}

// P5.3: Lift, Put and Uses of drawn terms, held against terms whose Vars know their binders.
func TestVarsDrawn(t *testing.T) {
	all := samples(3)
	r := rand.New(rand.NewSource(31))
	used, bound := 0, 0
	for _, x := range all {
		for range 8 {
			y, by, from := all[r.Intn(len(all))], r.Intn(4), r.Intn(4)
			want(t, "Lift of "+show(x), term.Lift(x, by, from), lifted(x, by, from))
			want(t, "Put of "+show(y)+" into "+show(x), term.Put(x, y), putIn(x, y))
			for i := -1; i < 5; i++ {
				uses := tied(x, nil).uses(i)
				if term.Uses(x, i) != uses {
					t.Fatalf("Uses(%s, %d): %v", show(x), i, !uses)
				}
				if uses && i > 0 {
					used++
				}
			}
			if !alike(lifted(x, 1, 0), x) && depth(x) > 3 {
				bound++
			}
		}
	}
	if used < 500 || bound < 500 {
		t.Fatalf("%d used, %d below binders: the draws tell little", used, bound)
	}
}

// What follows: Put of a lifted term is that term.
func TestPutOfLifted(t *testing.T) {
	all := append(samples(4), v(far), lam(c, v(far)))
	for i, x := range all {
		y := all[(i*7+3)%len(all)]
		if lifted := term.Lift(x, 1, 0); term.Uses(lifted, 0) {
			t.Errorf("Lift(%s, 1, 0) uses Var 0", show(x))
		}
		want(t, "Put of what is lifted", term.Put(term.Lift(x, 1, 0), y), x)
	}
}

// What follows: Lifts and Puts go through one another.
func TestThroughOneAnother(t *testing.T) {
	all := samples(5)
	r := rand.New(rand.NewSource(51))
	draw := func() api.Term { return all[r.Intn(len(all))] }
	for range 4000 {
		x, y, z, a, b, from, less := draw(), draw(), draw(), r.Intn(3), r.Intn(3), r.Intn(3), r.Intn(3)
		less = min(less, from)
		want(t, "Lift of Lift", term.Lift(term.Lift(x, a, from), b, from), term.Lift(x, a+b, from))
		want(t, "Lift through Lift", term.Lift(term.Lift(x, a, less), b, from+a), term.Lift(term.Lift(x, b, from), a, less))
		want(t, "Lift through Put", term.Lift(term.Put(x, y), a, from), term.Put(term.Lift(x, a, from+1), term.Lift(y, a, from)))
		// The body of a Lam is where Var 1, as seen from outside, can be put.
		below := term.Put(lam(prop, x), z).Args[1]
		want(t, "Put through Put", term.Put(term.Put(x, y), z), term.Put(below, term.Put(y, z)))
	}
}

// P5.4: Levels with a by that is shorter, as long, and longer than the parameters.
func TestLevels(t *testing.T) {
	x := lam(sort(u), app(con("c", w, succ(u), maxi(u, w)), let(sort(param(3)), v(0), con("d", zero))))
	for _, y := range []struct {
		by   []api.Level
		want api.Term
	}{
		{nil, x}, {[]api.Level{}, x},
		{[]api.Level{zero}, lam(sort(zero), app(con("c", w, succ(zero), maxi(zero, w)), let(sort(param(3)), v(0), con("d", zero))))},
		{[]api.Level{w, u}, lam(sort(w), app(con("c", u, succ(w), maxi(w, u)), let(sort(param(3)), v(0), con("d", zero))))},
		{[]api.Level{u, w, zero, succ(u), zero}, lam(sort(u), app(con("c", w, succ(u), maxi(u, w)), let(sort(succ(u)), v(0), con("d", zero))))},
	} {
		want(t, fmt.Sprint("Levels by ", y.by), term.Levels(x, y.by), y.want)
	}
	r := rand.New(rand.NewSource(6))
	for _, x := range samples(6) {
		by := make([]api.Level, r.Intn(6))
		for i := range by {
			by[i] = chanceLevel(r, 4)
		}
		want(t, "Levels of "+show(x), term.Levels(x, by), leveled(x, by))
	}
}

// P5.4: Spine, and Apply, there and back.
func TestSpineApply(t *testing.T) {
	for _, x := range []struct {
		t, head api.Term
		args    []api.Term
	}{
		{c, c, nil}, {v(3), v(3), nil}, {prop, prop, nil}, {lam(c, app(c, d)), lam(c, app(c, d)), nil}, {pi(app(c, d), d), pi(app(c, d), d), nil}, {let(c, c, app(c, d)), let(c, c, app(c, d)), nil},
		{app(c, d), c, []api.Term{d}}, {app(app(c, d), v(0)), c, []api.Term{d, v(0)}}, {app(app(app(con("c", u), v(2)), v(1)), v(0)), con("c", u), []api.Term{v(2), v(1), v(0)}},
		{app(c, app(d, v(0))), c, []api.Term{app(d, v(0))}}, {app(lam(c, v(0)), d), lam(c, v(0)), []api.Term{d}}, {app(app(let(c, c, app(v(0), d)), prop), app(c, d)), let(c, c, app(v(0), d)), []api.Term{prop, app(c, d)}},
	} {
		head, args := term.Spine(x.t)
		want(t, "the head of "+show(x.t), head, x.head)
		if !slices.EqualFunc(args, x.args, alike) {
			t.Errorf("Spine(%s): %v", show(x.t), args)
		}
		want(t, "Apply", term.Apply(x.head, x.args), x.t)
	}
	for _, x := range append(samples(7), leaning(api.TermApp, 0, 60000, c), leaning(api.TermApp, 1, 60000, c)) {
		head, args := term.Spine(x)
		if head.Kind == api.TermApp {
			t.Fatalf("%s: its head is an App", show(x))
		}
		want(t, "Apply of Spine", term.Apply(head, args), x)
	}
}

// P5.4: Apply with no Args, and of a head that is an App itself.
func TestApply(t *testing.T) {
	want(t, "Apply to nil", term.Apply(app(c, d), nil), app(c, d))
	want(t, "Apply to nothing", term.Apply(lam(c, v(0)), []api.Term{}), lam(c, v(0)))
	want(t, "Apply of an App", term.Apply(app(c, d), []api.Term{v(0), prop}), app(app(app(c, d), v(0)), prop))
	head, args := term.Spine(term.Apply(app(c, d), []api.Term{v(0)}))
	if !alike(head, c) || len(args) != 2 || !alike(args[0], d) || !alike(args[1], v(0)) {
		t.Errorf("Spine of Apply of an App: %s %v", show(head), args)
	}
}

// P5.4: Names, each once and rising.
func TestNames(t *testing.T) {
	for _, x := range []struct {
		t    api.Term
		want []string
	}{
		{v(0), nil}, {prop, nil}, {c, []string{"c"}}, {app(c, c), []string{"c"}}, {app(d, c), []string{"c", "d"}}, {lam(con("b"), pi(con("a"), let(con("z"), con("B"), con("a")))), []string{"B", "a", "b", "z"}},
		{app(app(con("b"), con("a.b")), app(con("ab"), app(con("a"), con("b", u)))), []string{"a", "a.b", "ab", "b"}}, {app(con("é"), app(con("z"), con("10"))), []string{"10", "z", "é"}}, {app(c, con("")), []string{"", "c"}},
		{bushy(api.TermApp, 100001, c), []string{"c"}},
	} {
		if got := term.Names(x.t); !slices.Equal(got, x.want) {
			t.Errorf("Names(%s): %q; want %q", show(x.t), got, x.want)
		}
	}
	for _, x := range samples(8) {
		if got := term.Names(x); !slices.Equal(got, names(x)) {
			t.Errorf("Names(%s): %q", show(x), got)
		}
	}
}

// names: Names, as the chapter says.
func names(t api.Term) []string {
	var out []string
	if t.Kind == api.TermConst {
		out = []string{t.Name}
	}
	for _, a := range t.Args {
		for _, n := range names(a) {
			if at, found := slices.BinarySearch(out, n); !found {
				out = slices.Insert(out, at, n)
			}
		}
	}
	return out
}
