package level_test

import (
	"fmt"
	"math"
	"math/rand"
	"slices"
	"testing"

	"touchstone/api"
	"touchstone/level"
)

const big = 1 << 40 // the greatest value of a parameter

var (
	zero       = api.Level{}
	u, v, w, x = param(0), param(1), param(2), param(3)
)

func param(n int) api.Level { return api.Level{Kind: api.LevelParam, N: n} }

func of(kind int, args ...api.Level) api.Level { return api.Level{Kind: kind, Args: args} }

func succ(l api.Level) api.Level { return of(api.LevelSucc, l) }

func maxi(a, b api.Level) api.Level { return of(api.LevelMax, a, b) }

func imax(a, b api.Level) api.Level { return of(api.LevelImax, a, b) }

// more: l and n more.
func more(n int, l api.Level) api.Level {
	for range n {
		l = succ(l)
	}
	return l
}

// bushy: a level of so many parts (an odd number), as flat as can be.
func bushy(kind, parts int, leaf api.Level) api.Level {
	if parts <= 1 {
		return leaf
	}
	left := (parts - 1) / 2
	if left%2 == 0 {
		left--
	}
	return of(kind, bushy(kind, left, leaf), bushy(kind, parts-1-left, leaf))
}

// leaning: a level that is so deep by the Args[side] of each part.
func leaning(kind, side, deep int, end api.Level) api.Level {
	for range deep - 1 {
		args := []api.Level{zero, zero}
		args[side] = end
		end = of(kind, args...)
	}
	return end
}

func parts(l api.Level) int {
	n := 1
	for _, a := range l.Args {
		n += parts(a)
	}
	return n
}

func depth(l api.Level) int {
	n := 0
	for _, a := range l.Args {
		n = max(n, depth(a))
	}
	return n + 1
}

// show: a level, for what a test tells.
func show(l api.Level) string {
	switch {
	case l.Kind == api.LevelZero && l.N == 0 && len(l.Args) == 0:
		return "0"
	case l.Kind == api.LevelParam && len(l.Args) == 0:
		return fmt.Sprint("p", l.N)
	}
	s := fmt.Sprint(l.Kind)
	for _, a := range l.Args {
		s += " " + show(a)
	}
	return "(" + s + ")"
}

// clone: the same, in other memory.
func clone(l api.Level) api.Level {
	args := make([]api.Level, len(l.Args))
	for i, a := range l.Args {
		args[i] = clone(a)
	}
	return api.Level{Kind: l.Kind, N: l.N, Args: args}
}

// alike: all fields are alike.
func alike(a, b api.Level) bool {
	return a.Kind == b.Kind && a.N == b.N && slices.EqualFunc(a.Args, b.Args, alike)
}

// value: what the chapter says that l is at these values.
func value(l api.Level, at [4]int) int {
	switch l.Kind {
	case api.LevelSucc:
		return value(l.Args[0], at) + 1
	case api.LevelMax:
		return max(value(l.Args[0], at), value(l.Args[1], at))
	case api.LevelImax:
		if value(l.Args[1], at) == 0 {
			return 0
		}
		return max(value(l.Args[0], at), value(l.Args[1], at))
	case api.LevelParam:
		return at[l.N]
	}
	return 0
}

// normal: the number, and what is added to each parameter (-1: it is not there), of which l is the
// greatest one where just the parameters of zeros are 0.
func normal(l api.Level, zeros int) [5]int {
	none := [5]int{0, -1, -1, -1, -1}
	switch l.Kind {
	case api.LevelSucc:
		n := normal(l.Args[0], zeros)
		for i := range n {
			if i == 0 || n[i] >= 0 {
				n[i]++
			}
		}
		return n
	case api.LevelMax, api.LevelImax:
		a, b := normal(l.Args[0], zeros), normal(l.Args[1], zeros)
		if l.Kind == api.LevelImax && b == none {
			return none
		}
		for i := range a {
			a[i] = max(a[i], b[i])
		}
		return a
	case api.LevelParam:
		if zeros>>l.N&1 == 0 {
			none[l.N+1] = 0
		}
	}
	return none
}

// below: a is at most b everywhere, by their normal forms.
func below(a, b api.Level) bool {
	for zeros := range 16 {
		m, n := normal(a, zeros), normal(b, zeros)
		least := n[0]
		for i := 1; i < 5; i++ {
			least = max(least, n[i]+1)
			if m[i] > n[i] {
				return false
			}
		}
		if m[0] > least {
			return false
		}
	}
	return true
}

// small: all levels of at most so many parts, with the first so many parameters.
func small(most, params int) (all []api.Level) {
	sized := make([][]api.Level, most+1)
	sized[1] = []api.Level{zero}
	for i := range params {
		sized[1] = append(sized[1], param(i))
	}
	for n := 2; n <= most; n++ {
		for _, l := range sized[n-1] {
			sized[n] = append(sized[n], succ(l))
		}
		for left := 1; left < n-1; left++ {
			for _, a := range sized[left] {
				for _, b := range sized[n-1-left] {
					sized[n] = append(sized[n], maxi(a, b), imax(a, b))
				}
			}
		}
	}
	return slices.Concat(sized...)
}

// chance: a level that is drawn, at most so deep, with at most so many parts.
func chance(r *rand.Rand, deep, most int) api.Level {
	if deep <= 1 || most <= 1 || r.Intn(8) == 0 {
		return []api.Level{zero, u, v, w, x, u, v, w, x}[r.Intn(9)]
	}
	kind := []int{api.LevelSucc, api.LevelMax, api.LevelImax}[r.Intn(3)]
	if kind == api.LevelSucc || most < 3 {
		return succ(chance(r, deep-1, most-1))
	}
	left := 1 + r.Intn(most-2)
	return of(kind, chance(r, deep-1, left), chance(r, deep-1, most-1-left))
}

// near: a level that is like l, or nearly so.
func near(r *rand.Rand, l api.Level) api.Level {
	if len(l.Args) == 2 && r.Intn(3) == 0 {
		switch r.Intn(5) {
		case 0:
			return of(l.Kind, near(r, l.Args[1]), near(r, l.Args[0]))
		case 1:
			return of(api.LevelMax+api.LevelImax-l.Kind, near(r, l.Args[0]), near(r, l.Args[1]))
		case 2:
			return near(r, l.Args[r.Intn(2)])
		case 3:
			return maxi(l, l.Args[0])
		case 4:
			return imax(l.Args[0], l)
		}
	}
	if l.Kind == api.LevelSucc && len(l.Args[0].Args) == 2 && r.Intn(2) == 0 {
		in := l.Args[0]
		return of(in.Kind, succ(near(r, in.Args[0])), succ(near(r, in.Args[1])))
	}
	args := make([]api.Level, len(l.Args))
	for i, a := range l.Args {
		args[i] = near(r, a)
	}
	return api.Level{Kind: l.Kind, N: l.N, Args: args}
}

// P4.1: levels of each kind that may be, and among how many parameters they first may.
func TestMay(t *testing.T) {
	for _, c := range []struct {
		l      api.Level
		params int
	}{
		{zero, 0}, {api.Level{Args: []api.Level{}}, 0}, {succ(zero), 0}, {maxi(zero, zero), 0}, {imax(zero, zero), 0},
		{u, 1}, {v, 2}, {w, 3}, {x, 4}, {api.Level{Kind: api.LevelParam, N: 2, Args: []api.Level{}}, 3},
		{succ(v), 2}, {maxi(u, w), 3}, {maxi(w, u), 3}, {imax(zero, x), 4}, {imax(x, zero), 4},
		{maxi(succ(imax(u, v)), imax(maxi(zero, u), succ(succ(v)))), 2},
		{more(31, zero), 0}, {more(31, u), 1},
		{leaning(api.LevelMax, 0, 32, zero), 0}, {leaning(api.LevelMax, 1, 32, v), 2},
		{leaning(api.LevelImax, 0, 32, w), 3}, {leaning(api.LevelImax, 1, 32, zero), 0},
		{bushy(api.LevelMax, 63, zero), 0}, {bushy(api.LevelImax, 63, u), 1},
		{succ(bushy(api.LevelMax, 63, zero)), 0}, {succ(bushy(api.LevelImax, 63, x)), 4},
		{maxi(succ(bushy(api.LevelImax, 31, zero)), bushy(api.LevelMax, 31, v)), 2},
	} {
		for _, params := range []int{math.MinInt, -1, 0, 1, 2, 3, 4, 5, 9, math.MaxInt} {
			if got := level.May(c.l, params); got != (max(params, 0) >= c.params) {
				t.Errorf("May(%s, %d): %v", show(c.l), params, got)
			}
		}
	}
}

// wrong: levels that may not be, whatever the parameters, but end.
func wrong() map[string]api.Level {
	return map[string]api.Level{
		"a kind of 5":              {Kind: 5},
		"a kind of 5 with Args":    of(5, zero, zero),
		"a kind of -1":             {Kind: -1},
		"the greatest kind":        {Kind: math.MaxInt},
		"the least kind":           {Kind: math.MinInt},
		"zero with an N":           {N: 1},
		"zero with an N below":     {N: -1},
		"zero of one":              of(api.LevelZero, zero),
		"zero of two":              of(api.LevelZero, zero, zero),
		"succ of none":             of(api.LevelSucc),
		"succ of two":              of(api.LevelSucc, zero, zero),
		"succ with an N":           {Kind: api.LevelSucc, N: 1, Args: []api.Level{zero}},
		"max of none":              of(api.LevelMax),
		"max of one":               of(api.LevelMax, zero),
		"max of three":             of(api.LevelMax, zero, zero, zero),
		"max with an N":            {Kind: api.LevelMax, N: 2, Args: []api.Level{zero, zero}},
		"imax of none":             of(api.LevelImax),
		"imax of one":              of(api.LevelImax, zero),
		"imax of three":            of(api.LevelImax, zero, zero, zero),
		"imax with an N":           {Kind: api.LevelImax, N: -1, Args: []api.Level{zero, zero}},
		"a parameter of one":       of(api.LevelParam, zero),
		"a parameter of two":       of(api.LevelParam, zero, zero),
		"parameter 4":              param(4),
		"parameter -1":             param(-1),
		"the greatest parameter":   param(math.MaxInt),
		"the least parameter":      param(math.MinInt),
		"33 deep by succ":          more(32, zero),
		"34 deep by succ":          more(33, u),
		"33 deep by max, first":    leaning(api.LevelMax, 0, 33, zero),
		"33 deep by max, second":   leaning(api.LevelMax, 1, 33, zero),
		"33 deep by imax, first":   leaning(api.LevelImax, 0, 33, zero),
		"33 deep by imax, second":  leaning(api.LevelImax, 1, 33, zero),
		"65 parts of max":          bushy(api.LevelMax, 65, zero),
		"65 parts of imax":         bushy(api.LevelImax, 65, u),
		"66 parts":                 succ(bushy(api.LevelMax, 65, zero)),
		"65 parts, more at left":   maxi(bushy(api.LevelMax, 63, zero), zero),
		"65 parts, more at right":  maxi(zero, bushy(api.LevelImax, 63, zero)),
		"a level of 100000 parts":  bushy(api.LevelMax, 100001, x),
		"a level of 100000 kinds":  of(api.LevelZero, make([]api.Level, 100000)...),
		"a level that is too deep": more(100000, zero),
	}
}

// P4.1: levels that may not be may be nowhere in a level either.
func TestMayNot(t *testing.T) {
	for name, l := range wrong() {
		for where, in := range map[string]api.Level{
			"itself": l, "of succ": succ(l), "first of max": maxi(l, zero), "second of max": maxi(u, l),
			"first of imax": imax(l, zero), "second of imax": imax(zero, l), "deep": imax(u, maxi(succ(succ(l)), v)),
		} {
			for _, params := range []int{-1, 0, 1, 4, 5, math.MaxInt} {
				if level.May(in, params) {
					t.Errorf("%s, %s: it may be among %d", name, where, params)
				}
			}
		}
	}
}

// P4.1: the parts and the depth that are told of what the tests make.
func TestMade(t *testing.T) {
	for _, c := range []struct {
		l           api.Level
		parts, deep int
	}{
		{more(31, zero), 32, 32}, {leaning(api.LevelMax, 1, 32, zero), 63, 32}, {bushy(api.LevelMax, 63, zero), 63, 6},
		{succ(bushy(api.LevelImax, 63, u)), 64, 7}, {bushy(api.LevelMax, 65, zero), 65, 7},
	} {
		if parts(c.l) != c.parts || depth(c.l) != c.deep {
			t.Errorf("%s: %d parts, %d deep", show(c.l), parts(c.l), depth(c.l))
		}
	}
}

// P4.1: drawn levels may be just if they are not too deep or great.
func TestMayDrawn(t *testing.T) {
	r := rand.New(rand.NewSource(4))
	yes := 0
	for range 20000 {
		l := chance(r, 2+r.Intn(40), 1+r.Intn(90))
		want := parts(l) <= 64 && depth(l) <= 32
		if level.May(l, 4) != want {
			t.Fatalf("May(%s): %v", show(l), !want)
		}
		if want {
			yes++
		}
	}
	if yes < 1000 || yes > 19900 {
		t.Fatalf("%d of 20000 may be: the draws tell little", yes)
	}
}

// P4.1: Eval of each kind, with Imax and 0, and an at that is shorter, longer, below 0 and above 2^40.
func TestEval(t *testing.T) {
	for _, c := range []struct {
		l    api.Level
		at   []int
		want int
	}{
		{zero, nil, 0}, {zero, []int{7, 7, 7, 7}, 0},
		{succ(zero), nil, 1}, {more(31, zero), nil, 31}, {more(31, u), []int{big}, big + 31},
		{u, nil, 0}, {u, []int{}, 0}, {u, []int{3}, 3}, {u, []int{3, 4}, 3}, {v, []int{3}, 0}, {v, []int{3, 4}, 4},
		{w, []int{1, 2, 3}, 3}, {x, []int{1, 2, 3}, 0}, {x, []int{1, 2, 3, 4}, 4}, {x, []int{1, 2, 3, 4, 5, 6}, 4},
		{u, []int{-1}, 0}, {u, []int{math.MinInt}, 0}, {succ(u), []int{-5}, 1},
		{u, []int{big - 1}, big - 1}, {u, []int{big}, big}, {u, []int{big + 1}, big}, {u, []int{math.MaxInt}, big},
		{succ(u), []int{math.MaxInt}, big + 1}, {x, []int{0, 0, 0, math.MaxInt}, big},
		{maxi(u, v), []int{2, 5}, 5}, {maxi(u, v), []int{5, 2}, 5}, {maxi(u, v), []int{5}, 5}, {maxi(u, v), []int{0, 5}, 5},
		{maxi(u, v), []int{4, 4}, 4}, {maxi(succ(u), v), []int{math.MaxInt, math.MaxInt}, big + 1},
		{imax(u, v), []int{2, 5}, 5}, {imax(u, v), []int{5, 2}, 5}, {imax(u, v), []int{5, 0}, 0}, {imax(u, v), []int{5}, 0},
		{imax(u, v), []int{5, -2}, 0}, {imax(u, v), []int{0, 5}, 5}, {imax(u, v), []int{5, 1}, 5}, {imax(u, v), []int{-5, 1}, 1},
		{imax(u, zero), []int{9}, 0}, {imax(succ(u), succ(zero)), []int{9}, 10}, {imax(zero, u), []int{9}, 9}, {imax(zero, zero), nil, 0},
		{succ(imax(u, v)), []int{9}, 1}, {imax(u, imax(v, w)), []int{9, 8, 0}, 0}, {imax(u, imax(v, w)), []int{9, 8, 1}, 9},
		{imax(imax(u, v), w), []int{9, 0, 1}, 1}, {imax(u, maxi(v, w)), []int{9, 0, 1}, 9}, {imax(u, maxi(v, w)), []int{9, 0, 0}, 0},
		{maxi(imax(u, v), succ(imax(w, x))), []int{9, 0, 7, 6}, 8},
	} {
		if got := level.Eval(c.l, c.at); got != c.want {
			t.Errorf("Eval(%s, %v): %d; want %d", show(c.l), c.at, got, c.want)
		}
	}
}

// P4.1: Eval is what the chapter says, on all small levels and on great ones.
func TestEvalDrawn(t *testing.T) {
	r := rand.New(rand.NewSource(41))
	all := small(5, 2)
	for range 3000 {
		all = append(all, chance(r, 32, 64))
	}
	for _, l := range all {
		for range 8 {
			at := [4]int{r.Intn(3), r.Intn(3), r.Intn(40), r.Intn(40)}
			if got, want := level.Eval(l, at[:]), value(l, at); got != want {
				t.Fatalf("Eval(%s, %v): %d; want %d", show(l), at, got, want)
			}
		}
	}
}

// P4.2: the chapter's examples, and what a reader would look for first.
func TestLeq(t *testing.T) {
	one := succ(zero)
	for _, c := range []struct {
		a, b     api.Level
		ab, back bool
	}{
		{imax(u, zero), zero, true, true},
		{maxi(u, one), succ(u), true, false},
		{zero, zero, true, true}, {zero, u, true, false}, {u, u, true, true}, {u, v, false, false}, {zero, one, true, false},
		{u, succ(u), true, false}, {one, u, false, false}, {succ(u), succ(v), false, false}, {more(30, zero), more(31, zero), true, false},
		{u, maxi(u, v), true, false}, {v, maxi(u, v), true, false}, {maxi(u, v), maxi(v, u), true, true}, {maxi(u, u), u, true, true},
		{imax(u, v), maxi(u, v), true, false}, {v, imax(u, v), true, false}, {u, imax(u, v), false, false}, {imax(u, u), u, true, true},
		{imax(u, v), imax(v, u), false, false}, {imax(u, succ(v)), maxi(u, succ(v)), true, true}, {imax(zero, u), u, true, true},
		{imax(one, u), u, true, true}, {imax(succ(one), u), u, false, true}, {imax(succ(one), u), maxi(u, succ(one)), true, false},
		{imax(succ(u), succ(v)), succ(maxi(u, v)), true, true}, {succ(maxi(u, v)), maxi(succ(u), succ(v)), true, true},
		{succ(imax(u, v)), imax(succ(u), succ(v)), true, false}, {succ(imax(u, v)), maxi(succ(imax(u, v)), succ(v)), true, true},
		{maxi(u, imax(v, u)), maxi(u, v), true, false}, {imax(u, imax(v, w)), imax(maxi(u, v), w), true, true},
		{imax(u, maxi(v, w)), maxi(imax(u, v), imax(u, w)), true, true}, {imax(maxi(u, v), w), maxi(imax(u, w), imax(v, w)), true, true},
		{imax(imax(u, v), w), imax(maxi(u, v), w), true, false}, {maxi(one, u), maxi(one, succ(u)), true, false},
		{maxi(one, imax(u, v)), maxi(one, maxi(u, v)), true, false}, {succ(succ(u)), maxi(succ(u), succ(one)), false, true},
		{maxi(maxi(u, v), maxi(w, x)), maxi(x, maxi(w, maxi(v, u))), true, true}, {maxi(u, maxi(v, w)), maxi(u, maxi(v, x)), false, false},
		{x, imax(maxi(u, v), x), true, false}, {imax(w, x), maxi(imax(w, x), u), true, false},
		{imax(more(5, u), v), maxi(more(5, u), v), true, false}, {more(3, maxi(u, more(2, v))), maxi(more(3, u), more(5, v)), true, true},
	} {
		if level.Leq(c.a, c.b) != c.ab || level.Leq(c.b, c.a) != c.back {
			t.Errorf("Leq of %s, %s: %v, back %v", show(c.a), show(c.b), !c.ab, level.Leq(c.b, c.a))
		}
		if same := c.ab && c.back; level.Same(c.a, c.b) != same || level.Same(c.b, c.a) != same {
			t.Errorf("Same of %s, %s: %v", show(c.a), show(c.b), !same)
		}
	}
}

// grid: what l is wherever all of params parameters are below side.
func grid(l api.Level, params, side int) (out []int) {
	for i := range int(math.Pow(float64(side), float64(params))) {
		var at [4]int
		for k := range params {
			at[k] = i % side
			i /= side
		}
		out = append(out, value(l, at))
	}
	return out
}

// P4.2: of small levels all pairs, held against their values at all small parameters.
func TestLeqSmall(t *testing.T) {
	for _, c := range []struct{ most, params, side int }{{5, 2, 8}, {6, 1, 9}, {3, 4, 5}} {
		all := small(c.most, c.params)
		grids := make([][]int, len(all))
		for i, l := range all {
			grids[i] = grid(l, c.params, c.side)
			if got, want := level.Never(l), !slices.Contains(grids[i], 0); got != want {
				t.Fatalf("Never(%s): %v", show(l), got)
			}
		}
		for i, a := range all {
			for k, b := range all {
				want := true
				for p := range grids[i] {
					want = want && grids[i][p] <= grids[k][p]
				}
				if level.Leq(a, b) != want || level.Same(a, b) != slices.Equal(grids[i], grids[k]) {
					t.Fatalf("%s, %s: Leq %v, Same %v", show(a), show(b), level.Leq(a, b), level.Same(a, b))
				}
			}
		}
	}
}

// P4.2: of great levels with four parameters drawn pairs, near ones too, held against their normal forms.
func TestLeqDrawn(t *testing.T) {
	r := rand.New(rand.NewSource(42))
	leq, same, never := 0, 0, 0
	for range 20000 {
		a := chance(r, 2+r.Intn(31), 1+r.Intn(64))
		b := chance(r, 2+r.Intn(31), 1+r.Intn(64))
		if r.Intn(4) > 0 {
			b = near(r, a)
		}
		if !level.May(a, 4) || !level.May(b, 4) {
			continue
		}
		ab, ba := below(a, b), below(b, a)
		if level.Leq(a, b) != ab || level.Leq(b, a) != ba || level.Same(a, b) != (ab && ba) {
			t.Fatalf("%s, %s: Leq %v, back %v, Same %v", show(a), show(b), level.Leq(a, b), level.Leq(b, a), level.Same(a, b))
		}
		if level.Never(a) != below(succ(zero), a) {
			t.Fatalf("Never(%s): %v", show(a), level.Never(a))
		}
		leq, same, never = leq+count(ab && !ba), same+count(ab && ba && !alike(a, b)), never+count(level.Never(a))
	}
	if leq < 500 || same < 500 || never < 500 {
		t.Fatalf("%d Leq, %d Same, %d Never: the draws tell little", leq, same, never)
	}
}

func count(b bool) int {
	if b {
		return 1
	}
	return 0
}

// What follows: Leq is an order, but for Same.
func TestOrder(t *testing.T) {
	all := small(4, 2)
	for _, a := range all {
		if !level.Leq(a, a) || !level.Same(a, a) {
			t.Errorf("%s is not as itself", show(a))
		}
		for _, b := range all {
			if level.Same(a, b) != (level.Leq(a, b) && level.Leq(b, a)) || level.Same(a, b) != level.Same(b, a) {
				t.Errorf("Same of %s, %s", show(a), show(b))
			}
			for _, c := range all {
				if level.Leq(a, b) && level.Leq(b, c) && !level.Leq(a, c) {
					t.Fatalf("%s, %s, %s: no order", show(a), show(b), show(c))
				}
			}
		}
	}
}

// P4.2: Never, on each kind.
func TestNever(t *testing.T) {
	one := succ(zero)
	for _, l := range []api.Level{one, succ(u), more(31, x), maxi(u, one), maxi(one, u), imax(u, one), imax(zero, succ(v)), succ(imax(u, zero)), maxi(imax(u, v), imax(v, succ(w))), imax(u, imax(v, one))} {
		if !level.Never(l) {
			t.Errorf("%s is never 0", show(l))
		}
	}
	for _, l := range []api.Level{zero, u, x, maxi(u, v), maxi(zero, zero), imax(one, zero), imax(one, u), imax(succ(u), v), maxi(imax(one, u), v), imax(one, imax(one, u)), imax(one, maxi(u, v))} {
		if level.Never(l) {
			t.Errorf("%s may be 0", show(l))
		}
	}
}

// P4.2: Equal asks all fields, at each place, and takes nil as empty.
func TestEqual(t *testing.T) {
	all := append(small(4, 2), w, x, more(31, x), bushy(api.LevelMax, 63, u), bushy(api.LevelMax, 63, v))
	for i, a := range all {
		for k, b := range all {
			if level.Equal(a, clone(b)) != (i == k) {
				t.Errorf("Equal of %s, %s: %v", show(a), show(b), i != k)
			}
		}
	}
	empty, none := api.Level{Args: []api.Level{}}, api.Level{}
	if !level.Equal(empty, none) || !level.Equal(none, empty) || !level.Equal(succ(empty), succ(none)) || !level.Equal(maxi(u, none), maxi(clone(u), empty)) {
		t.Error("nil is not as empty")
	}
	r := rand.New(rand.NewSource(43))
	for range 2000 {
		a := chance(r, 32, 64)
		b := near(r, a)
		if level.Equal(a, b) != alike(a, b) || !level.Equal(a, clone(a)) {
			t.Fatalf("Equal of %s, %s: %v", show(a), show(b), !alike(a, b))
		}
	}
}

// Levels that are the Same need not be Equal.
func TestSameIsNotEqual(t *testing.T) {
	if level.Equal(maxi(u, v), maxi(v, u)) || level.Equal(imax(u, zero), zero) || level.Equal(maxi(u, v), imax(u, v)) {
		t.Error("Equal turns levels")
	}
}

// P4.3: Put with a by that is as long, shorter, and longer than the parameters.
func TestPut(t *testing.T) {
	l := maxi(succ(u), imax(v, maxi(u, x)))
	for _, c := range []struct {
		l    api.Level
		by   []api.Level
		want api.Level
	}{
		{l, nil, l}, {l, []api.Level{}, l},
		{l, []api.Level{zero}, maxi(succ(zero), imax(v, maxi(zero, x)))},
		{l, []api.Level{v, u}, maxi(succ(v), imax(u, maxi(v, x)))},
		{l, []api.Level{w, w, zero}, maxi(succ(w), imax(w, maxi(w, x)))},
		{l, []api.Level{u, v, w, x}, l},
		{l, []api.Level{x, w, v, u}, maxi(succ(x), imax(w, maxi(x, u)))},
		{l, []api.Level{u, v, w, zero, succ(u), u}, maxi(succ(u), imax(v, maxi(u, zero)))},
		{zero, []api.Level{u, v, w, x}, zero}, {u, []api.Level{succ(u)}, succ(u)}, {v, []api.Level{succ(u)}, v},
		{x, []api.Level{zero, zero, zero}, x}, {x, []api.Level{zero, zero, zero, maxi(u, v)}, maxi(u, v)},
		{succ(u), []api.Level{maxi(v, v)}, succ(maxi(v, v))},
		// Nothing else is turned: what is the Same stays as it is written.
		{imax(u, v), []api.Level{succ(zero), zero}, imax(succ(zero), zero)}, {maxi(u, u), []api.Level{zero}, maxi(zero, zero)},
		{u, []api.Level{{Args: []api.Level{}}}, zero},
	} {
		if got := level.Put(c.l, c.by); !alike(got, c.want) {
			t.Errorf("Put(%s, %v): %s; want %s", show(c.l), c.by, show(got), show(c.want))
		}
	}
}

// putIn: Put, as the chapter says.
func putIn(l api.Level, by []api.Level) api.Level {
	if l.Kind == api.LevelParam && l.N < len(by) {
		return clone(by[l.N])
	}
	args := make([]api.Level, len(l.Args))
	for i, a := range l.Args {
		args[i] = putIn(a, by)
	}
	return api.Level{Kind: l.Kind, N: l.N, Args: args}
}

// P4.3, and 'What follows': Put of drawn levels, also where what is told is greater than may be; Leq is kept.
func TestPutDrawn(t *testing.T) {
	r := rand.New(rand.NewSource(44))
	great, kept := 0, 0
	for range 5000 {
		a := chance(r, 2+r.Intn(31), 1+r.Intn(64))
		b := near(r, a)
		by := make([]api.Level, r.Intn(6))
		for i := range by {
			by[i] = chance(r, 2+r.Intn(31), 1+r.Intn(64))
		}
		pa, pb := level.Put(a, by), level.Put(b, by)
		if !alike(pa, putIn(a, by)) || !level.Equal(pa, putIn(a, by)) {
			t.Fatalf("Put(%s, %v): %s", show(a), by, show(pa))
		}
		if level.Leq(a, b) && !level.Leq(pa, pb) {
			t.Fatalf("Put(.., %v) does not keep %s, %s", by, show(a), show(b))
		}
		if level.Same(pa, pb) != (below(pa, pb) && below(pb, pa)) {
			t.Fatalf("Same of %s, %s: %v", show(pa), show(pb), level.Same(pa, pb))
		}
		great, kept = great+count(!level.May(pa, 4)), kept+count(level.Leq(a, b))
	}
	if great < 500 || kept < 500 {
		t.Fatalf("%d greater than may be, %d kept: the draws tell little", great, kept)
	}
}

// Eval of what is put is Eval with the values of what is put in.
func TestPutEval(t *testing.T) {
	r := rand.New(rand.NewSource(45))
	for range 3000 {
		l, at := chance(r, 32, 64), []int{r.Intn(3), r.Intn(5), r.Intn(3), r.Intn(9)}
		by, values := make([]api.Level, 4), make([]int, 4)
		for i := range by {
			by[i] = chance(r, 20, 30)
			values[i] = level.Eval(by[i], at)
		}
		if got, want := level.Eval(level.Put(l, by), at), level.Eval(l, values); got != want {
			t.Fatalf("Eval of Put(%s, %v) at %v: %d; want %d", show(l), by, at, got, want)
		}
	}
}

// lists: where each list of l begins.
func lists(l api.Level, seen map[*api.Level]int) {
	if len(l.Args) > 0 {
		seen[&l.Args[0]]++
	}
	for _, a := range l.Args {
		lists(a, seen)
	}
}

// R3: what Put tells is new memory: it shares none with what was handed in, and no two of its lists share any.
func TestPutIsNew(t *testing.T) {
	shared := maxi(u, succ(v))
	l := maxi(imax(u, shared), maxi(shared, succ(u)))
	for _, by := range [][]api.Level{nil, {succ(zero)}, {shared, shared}, {l, l, l, l}, {l.Args[0], shared, zero}} {
		given := map[*api.Level]int{}
		lists(l, given)
		for _, b := range by {
			lists(b, given)
		}
		told := map[*api.Level]int{}
		lists(level.Put(l, by), told)
		for p, n := range told {
			if given[p] > 0 || n > 1 {
				t.Errorf("by %v: a list of the answer is shared", by)
			}
		}
	}
	by := []api.Level{succ(v)}
	one, two := level.Put(u, by), level.Put(u, by)
	one.Args[0].N = 3
	if by[0].Args[0].N != 1 || two.Args[0].N != 1 {
		t.Error("an answer shares memory")
	}
}

// roomy: the same, in lists with spare room, in which marks stand.
func roomy(l api.Level) api.Level {
	args := make([]api.Level, 0, len(l.Args)+2)
	for _, a := range l.Args {
		args = append(args, roomy(a))
	}
	mark := api.Level{Kind: 77, N: 78}
	copy(args[len(args):cap(args)], []api.Level{mark, mark})
	return api.Level{Kind: l.Kind, N: l.N, Args: args}
}

// marked: the marks of roomy stand as they stood.
func marked(l api.Level) bool {
	spare := l.Args[len(l.Args):cap(l.Args)]
	for _, m := range spare {
		if m.Kind != 77 || m.N != 78 || m.Args != nil {
			return false
		}
	}
	return len(spare) == 2 && !slices.ContainsFunc(l.Args, func(a api.Level) bool { return !marked(a) })
}

// R3: what was handed in, its spare room too, stays as it was.
func TestNothingChanges(t *testing.T) {
	levels := append(small(4, 2), more(31, x), bushy(api.LevelImax, 63, v), maxi(imax(w, x), succ(u)))
	for i, l := range levels {
		a, b := roomy(l), roomy(levels[len(levels)-1-i])
		other := clone(b)
		at := []int{-1, 1 << 50, 2, 3, 4}
		by := []api.Level{b, a, {Kind: 77}}
		level.May(a, 4)
		level.Eval(a, at)
		level.Leq(a, b)
		level.Same(a, b)
		level.Never(a)
		level.Equal(a, b)
		level.Put(a, by[:2])
		if !alike(a, l) || !alike(b, other) || !marked(a) || !marked(b) || !alike(by[0], b) || !alike(by[1], a) || by[2].Kind != 77 {
			t.Fatalf("%s, %s: what was handed in changed", show(l), show(other))
		}
		if !slices.Equal(at, []int{-1, 1 << 50, 2, 3, 4}) {
			t.Fatalf("the values changed: %v", at)
		}
	}
}

// ring: a level that is below itself, in each of so many Args.
func ring(kind, args int) api.Level {
	list := make([]api.Level, args)
	l := api.Level{Kind: kind, Args: list}
	for i := range list {
		list[i] = l
	}
	return l
}

// doubled: a level of 2^n parts, in little memory.
func doubled(kind, n int, l api.Level) api.Level {
	for range n {
		l = of(kind, l, l)
	}
	return l
}

// hostile: levels that may not be, some of which have no end, or more parts than memory.
func hostile() map[string]api.Level {
	all := wrong()
	for kind := -1; kind <= 5; kind++ {
		for _, args := range []int{1, 2, 3, 60000} {
			all[fmt.Sprint("a ring of kind ", kind, " with ", args)] = ring(kind, args)
		}
		all[fmt.Sprint("doubled of kind ", kind)] = doubled(kind, 80, u)
	}
	all["of a ring"] = maxi(succ(u), imax(v, ring(api.LevelMax, 2)))
	return all
}

// R1: every call ends, and none panics, whatever it is handed.
func TestWhatever(t *testing.T) {
	fine := maxi(succ(u), imax(v, x))
	others := []api.Level{fine, ring(api.LevelMax, 2), ring(api.LevelSucc, 1), doubled(api.LevelImax, 80, u), {Kind: -1}}
	for name, a := range hostile() {
		if level.May(a, 4) {
			t.Errorf("%s: it may be", name)
		}
		for _, at := range [][]int{nil, {math.MinInt, math.MaxInt}, {1, 2, 3, 4, 5, 6}} {
			level.Eval(a, at)
		}
		level.Never(a)
		level.Put(a, nil)
		level.Put(a, []api.Level{a, a, a, a})
		level.Put(fine, []api.Level{a, a, a, a})
		for _, b := range append(others, a) {
			level.Leq(a, b)
			level.Leq(b, a)
			level.Same(a, b)
			level.Equal(a, b)
			level.Equal(b, a)
			level.Put(a, []api.Level{b, b})
		}
	}
}

// R3: what may not be is copied by Put all the same, or left out: the answer shares nothing with it.
func TestPutWrongIsNew(t *testing.T) {
	for name, l := range wrong() {
		given, told := map[*api.Level]int{}, map[*api.Level]int{}
		lists(l, given)
		lists(level.Put(l, nil), told)
		lists(level.Put(maxi(u, u), []api.Level{l}), told)
		for p, n := range told {
			if given[p] > 0 || n > 1 {
				t.Fatalf("%s: a list of the answer is shared", name)
			}
		}
	}
}

// Of a level without end Put tells the zero value, not a piece of it.
func TestPutWithoutEnd(t *testing.T) {
	for _, l := range []api.Level{ring(api.LevelSucc, 1), ring(api.LevelMax, 2), doubled(api.LevelImax, 80, u)} {
		for _, got := range []api.Level{level.Put(l, nil), level.Put(succ(u), []api.Level{l})} {
			if got.Kind != 0 || got.N != 0 || got.Args != nil {
				t.Errorf("a level of kind %d with %d Args is told", got.Kind, len(got.Args))
			}
		}
	}
}
