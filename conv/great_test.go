package conv_test

import (
	"fmt"
	"math"
	"runtime"
	"testing"

	"touchstone/api"
	"touchstone/conv"
	"touchstone/env"
	"touchstone/term"
)

// great: more than any term of these tests needs.
var great = api.Meter{Fuel: api.MaxFuel, Cells: 1 << 20}

// around: so many times by around t.
func around(t api.Term, times int, by func(t api.Term) api.Term) api.Term {
	for range times {
		t = by(t)
	}
	return t
}

// row: f, applied to so many of a.
func row(f, a api.Term, count int) api.Term {
	for range count {
		f = app(f, a)
	}
	return f
}

// want: Conv says so, with so much fuel, and so it says with a and b the other way round.
func want(t *testing.T, what string, e *env.Env, a, b api.Term, m api.Meter, is bool, fuel int) {
	t.Helper()
	for range 2 {
		got, n, err := conv.Conv(e, a, b, m)
		if got != is || n != (api.Meter{Fuel: m.Fuel - fuel, Cells: m.Cells}) || err != api.OK {
			t.Errorf("%s: %v, %d steps, %d, want %v, %d steps", what, got, m.Fuel-n.Fuel, err, is, fuel)
		}
		a, b = b, a
	}
}

// tower: so many Lams around f, applied to all their variables.
func tower(f api.Term, lams int) api.Term {
	for i := range lams {
		f = app(f, v(lams-1-i))
	}
	return around(f, lams, func(t api.Term) api.Term { return lam(con("a"), t) })
}

// P14.2: terms with as many parts nested in one another as may be, and deeper, unlike at their ends alone.
func TestDeep(t *testing.T) {
	e := common()
	for _, x := range []struct {
		what          string
		by            func(t api.Term) api.Term
		before, after int // steps for each, ahead of what stands in it and behind
		unlike        int // ahead of what stands in it, where this takes none
	}{
		{"the only argument", func(t api.Term) api.Term { return app(con("suc"), t) }, 1, 0, 1},
		{"the first argument", func(t api.Term) api.Term { return app(con("f"), t, con("a")) }, 1, 1, 1},
		{"the last argument", func(t api.Term) api.Term { return app(con("f"), con("a"), t) }, 2, 0, 2},
		{"the type of a Lam", func(t api.Term) api.Term { return lam(t, con("a")) }, 1, 1, 1},
		{"a Lam", func(t api.Term) api.Term { return lam(con("a"), t) }, 2, 0, 2},
		{"the type of a Pi", func(t api.Term) api.Term { return pi(t, con("a")) }, 1, 1, 1},
		{"a Pi", func(t api.Term) api.Term { return pi(con("a"), t) }, 2, 0, 2},
		{"an argument in a Lam", func(t api.Term) api.Term { return lam(con("a"), app(con("f"), t)) }, 3, 0, 3},
		{"an argument's type", func(t api.Term) api.Term { return app(con("f"), pi(t, v(0)), con("a")) }, 2, 2, 2},
		{"a major", func(t api.Term) api.Term { return app(of(`(((Nat.rec{0} C) a) b)`), t) }, 6, 0, 4}, // 2 of them for the majors below
	} {
		for _, deep := range []int{100, 1 << 16} {
			a := around(app(con("i"), con("c")), deep, x.by)
			want(t, fmt.Sprint(deep, " times ", x.what, ", alike in meaning"), e, a, around(con("c"), deep, x.by), great, true, deep*(x.before+x.after)+3)
			want(t, fmt.Sprint(deep, " times ", x.what, ", not alike"), e, a, around(con("d"), deep, x.by), great, false, deep*x.before+3)
			want(t, fmt.Sprint(deep, " times ", x.what, ", itself"), e, a, a, great, true, 1)
			want(t, fmt.Sprint(deep, " times ", x.what, ", unlike at the end alone"), e, around(con("c"), deep, x.by), around(con("d"), deep, x.by), great, false, deep*x.unlike+1)
		}
	}
}

// P14.2: a tower of Lams against what is none, which is lifted and applied as often.
func TestTowers(t *testing.T) {
	e := common()
	r := of(`((((Nat.rec{0} C) a) b) (i #7))`) // each time its head is asked for, 2 steps for its major
	for _, lams := range []int{1, 2, 10, 1000, 1 << 16} {
		f := tower(con("f"), lams)
		want(t, fmt.Sprint(lams, " Lams, a Const"), e, f, con("f"), great, true, lams+1)
		want(t, fmt.Sprint(lams, " Lams, a Var"), e, tower(v(lams+4), lams), v(4), great, true, lams+1)
		want(t, fmt.Sprint(lams, " Lams, an App"), e, tower(app(con("f"), v(lams+4)), lams), app(con("f"), v(4)), great, true, lams+1)
		want(t, fmt.Sprint(lams, " Lams, another Const"), e, f, con("b"), great, false, lams+1)
		want(t, fmt.Sprint(lams, " Lams, a definition"), e, f, con("g"), great, true, lams+2)
		want(t, fmt.Sprint(lams, " Lams, as many"), e, f, tower(con("f"), lams), great, true, 1)
		want(t, fmt.Sprint(lams, " Lams, fewer"), e, f, tower(con("f"), lams/2), great, true, 1+lams/2*2+lams-lams/2)
		want(t, fmt.Sprint(lams, " Lams, a Sort"), e, f, of(`*0`), great, false, lams+1)
		want(t, fmt.Sprint(lams, " Lams, a recursor"), e, tower(term.Lift(of(`(((Nat.rec{0} C) a) b)`), lams, 0), lams), of(`(((Nat.rec{0} C) a) b)`), great, true, lams+1)
		want(t, fmt.Sprint(lams, " Lams, a recursor at its end"), e, tower(con("f"), lams), r, great, false, 3*(lams+1))
	}
}

// P14.2: Lams on both sides by turns, each against what is none.
func TestTowersByTurns(t *testing.T) {
	for _, deep := range []int{1, 2, 3, 50, 1000, 1 << 14} {
		a, b := byTurns(deep, 0, true), byTurns(deep, 0, false)
		want(t, fmt.Sprint(deep, " by turns"), nil, a, b, great, true, 3*deep-1)
	}
}

// byTurns: f of f of .. of a variable, each second one with a Lam around it.
func byTurns(deep, vars int, lams bool) api.Term {
	switch {
	case deep == 0:
		return v(vars)
	case lams:
		return lam(con("a"), app(con("f"), byTurns(deep-1, vars+1, false), v(0)))
	}
	return app(con("f"), byTurns(deep-1, vars, true))
}

// P14.2: rows of as many arguments as may be.
func TestWide(t *testing.T) {
	const count = 1<<17 - 1
	e := common()
	a, b := row(con("f"), con("a"), count), row(con("f"), app(con("i"), con("a")), count)
	want(t, "rows that mean the same", e, a, b, great, true, 1+3*count)
	want(t, "rows, the last one another", e, app(a, con("b")), app(b, con("c")), great, false, 1+3*count+1)
	want(t, "rows, one longer", e, a, app(b, con("a")), great, false, 1)
	want(t, "a row, and another head", e, a, row(con("g"), con("a"), count), great, true, 2)
	want(t, "rows of rows", e, app(con("f"), a, b), app(con("f"), b, a), great, true, 1+2*(1+3*count))
}

// P14.2: what has no end but its fuel, in the first of two pairs, in the last one, and on one side.
func TestWithoutEnd(t *testing.T) {
	e := with(def("i", 0, `\a. #0`), def("l", 0, `\a. l`), def("k", 1, `\a. (k{p0} a)`), def("d", 0, `!d. a`), def("e", 0, `!e. a`), def("s", 0, `!a. s`), def("t", 0, `!a. t`),
		def("d1", 1, `!d1{p0}. a{p0}`), def("e1", 1, `!e1{p0}. a{p0}`), def("x", 0, `(f x)`), def("y", 0, `(f y)`),
		family("Nat", 0, "*S0", "zero", "Nat", "suc", "!Nat. Nat"), rec("Nat.rec", 1, "Nat"))
	for _, x := range [][2]string{{`d`, `e`}, {`s`, `t`}, {`l`, `f`}, {`l`, `(((Nat.rec{0} C) a) b)`}, {`k{p0}`, `f`}, {`d1{0}`, `e1{0}`}, {`x`, `y`}, {`l`, `*0`}, {`\a. l`, `#0`}} {
		for _, fuel := range []int{1, 2, 3, 1000, 300000} {
			for _, y := range [][2]string{x, {x[1], x[0]}} {
				is, n, err := conv.Conv(e, of(y[0]), of(y[1]), api.Meter{Fuel: fuel, Cells: 50})
				if is || n != (api.Meter{Cells: 50}) || err != api.ErrFuel {
					t.Errorf("Conv of %s, %s with fuel %d: %v, %v, %d, want ErrFuel", y[0], y[1], fuel, is, n, err)
				}
			}
		}
	}
}

// doubledIn: behind so many steps what stands in body, with 2^steps times end in the place of its Var 0.
func doubledIn(body api.Term, steps int, end api.Term) api.Term {
	x := around(body, steps, func(t api.Term) api.Term { return app(lam(con("a"), t), app(v(0), v(0))) })
	return app(lam(con("a"), x), end)
}

func doubled(steps int, end api.Term) api.Term {
	return doubledIn(app(con("b"), v(0)), steps, end)
}

// P14.2: terms on the way that have more parts than any memory, as long as they fit.
func TestDoubled(t *testing.T) {
	e := common()
	m := api.Meter{Fuel: 1000, Cells: math.MaxInt}
	q := func(end api.Term) api.Term { return app(con("q"), end) }
	for _, steps := range []int{2, 20, 40, 58} {
		ends := 2 * (steps + 1)
		want(t, "two that come to one", e, doubled(steps, con("c")), app(con("i"), doubled(steps, con("c"))), m, true, 1+ends+2)
		want(t, "two unlike at their ends", e, doubled(steps, q(con("c"))), doubled(steps, q(con("d"))), m, false, 1+ends+2)
	}
	for _, steps := range []int{2, 20, 40, 58} {
		a, b := doubledIn(lam(con("a"), app(con("g"), v(1), v(0))), steps, v(3)), doubledIn(app(con("g"), v(0)), steps, v(3))
		want(t, "two, one below a Lam", with(), a, b, m, true, 1+2*(steps+1)+1)
	}
	a, b := doubled(30, q(con("c"))), doubled(30, q(app(con("i"), con("c"))))
	if is, n, err := conv.Conv(e, a, b, m); is || n != (api.Meter{Cells: math.MaxInt}) || err != api.ErrFuel {
		t.Errorf("two that mean the same, with more ends than fuel: %v, %v, %d", is, n, err)
	}
	if is, n, err := conv.Conv(e, a, b, api.Meter{Fuel: 1000, Cells: 1000}); is || n.Fuel < 980 || err != api.ErrCells {
		t.Errorf("two that do not fit: %v, %v, %d", is, n, err)
	}
}

// byLams: behind steps, below so many Lams, what stands in end, with 2^lams parts in the place of its Var 0,
// no two of which are below as many Lams.
func byLams(lams int, end api.Term) api.Term {
	x := around(end, lams, func(t api.Term) api.Term {
		return lam(con("a"), app(lam(con("a"), t), app(con("f"), v(1), lam(con("a"), v(2)))))
	})
	return app(lam(con("a"), x), v(7))
}

// P14.2: terms on the way that share their parts below more and more binders, with more parts than any memory.
func TestByLams(t *testing.T) {
	e := common()
	m := api.Meter{Fuel: 1000, Cells: math.MaxInt}
	for _, lams := range []int{1, 5, 12, 40, 50} {
		a := byLams(lams, app(con("g"), v(0)))
		want(t, fmt.Sprint(lams, " Lams"), e, a, byLams(lams, app(con("g"), app(con("i"), v(0)))), m, true, 8+4*lams)
		want(t, fmt.Sprint(lams, " Lams, not alike"), e, a, byLams(lams, app(con("g"), con("b"))), m, false, 6+4*lams)
		below := func(t api.Term) api.Term { return lam(con("a"), app(con("q"), t, lam(con("a"), v(0)))) }
		want(t, fmt.Sprint(lams, " Lams, in functions"), e, byLams(lams, app(con("g"), below(v(1)))), byLams(lams, app(con("g"), app(lam(con("a"), below(v(1))), v(0)))), m, true, 7+4*lams)
	}
}

// lets: rows of so many Lets, each of which comes to a tree of Apps with 2^deep of its end, and a tree of what they come to.
// The ends are counted outside of all Lets.
func lets(rows, deep int, end func(row int) api.Term, apply func(rows []api.Term) api.Term) api.Term {
	var all []api.Term
	for i := range rows {
		all = append(all, v((rows-1-i)*(deep+1)))
	}
	t := apply(all)
	for i := rows - 1; i >= 0; i-- {
		for range deep {
			t = let(con("a"), app(v(0), v(0)), t)
		}
		t = let(con("a"), term.Lift(end(i), i*(deep+1), 0), t)
	}
	return t
}

// flat: a tree of Apps, written out, with 2^deep of end.
func flat(deep int, end api.Term) api.Term {
	for range deep {
		end = app(end, end)
	}
	return end
}

// P14.2: terms on the way share their parts often, on one side otherwise than on the other.
func TestSharedOtherwise(t *testing.T) {
	const deep = 16
	m := api.Meter{Fuel: 100000, Cells: 1 << 30}
	apply := func(rows []api.Term) api.Term { return app(con("f"), rows...) }
	for _, rows := range []int{1, 8, 100} {
		same := func(int) api.Term { return con("c") }
		a := lets(rows, deep, same, apply)
		b := let(con("a"), flat(deep, con("c")), row(con("f"), v(0), rows))
		steps := rows*(deep+1) + 1
		want(t, fmt.Sprint(rows, " rows, one tree"), nil, a, b, m, true, 1+steps)
		want(t, fmt.Sprint(rows, " rows, and as many"), nil, a, app(lam(con("a"), term.Lift(a, 1, 0)), con("b")), m, true, 1+steps+rows*(deep+1))
		other := func(row int) api.Term { return con(map[bool]string{true: "c", false: "d"}[row < rows-1]) }
		want(t, fmt.Sprint(rows, " rows, the last one another"), nil, lets(rows, deep, other, apply), b, m, false, 1+steps+rows)
		open := func(int) api.Term { return v(3) }
		want(t, fmt.Sprint(rows, " rows, of a variable"), nil, lets(rows, deep, open, apply), let(con("a"), flat(deep, v(3)), row(con("f"), v(0), rows)), m, true, 1+steps)
	}
}

// P14.2: the same below binders, as many around each row as there are rows ahead of it.
func TestSharedBelowBinders(t *testing.T) {
	const deep = 16
	m := api.Meter{Fuel: 100000, Cells: 1 << 30}
	ladder := func(rows []api.Term) api.Term { // f row0 \a. (f row1 \a. (f row2 ..)), each lifted
		t := con("b")
		for i := len(rows) - 1; i >= 0; i-- {
			t = lam(con("a"), app(con("f"), term.Lift(rows[i], i+1, 0), t))
		}
		return t
	}
	for _, rows := range []int{1, 8, 60} {
		steps := rows*(deep+1) + 1
		var one []api.Term
		for range rows {
			one = append(one, v(0))
		}
		a := lets(rows, deep, func(int) api.Term { return v(3) }, ladder)
		want(t, fmt.Sprint(rows, " rows"), nil, a, let(con("a"), flat(deep, v(3)), ladder(one)), m, true, 1+steps)
		// What is lifted on one side only is not alike in its parts as they lie there.
		b := let(con("a"), flat(deep, v(3)), ladder(one))
		want(t, fmt.Sprint(rows, " rows below a Lam"), nil, a, app(lam(con("a"), term.Lift(b, 1, 0)), con("c")), m, true, 1+steps+1)
		a = lets(rows, deep, func(i int) api.Term { return v(i) }, ladder)
		want(t, fmt.Sprint(rows, " rows of variables"), nil, a, a, m, true, 1)
		if rows > 1 {
			want(t, fmt.Sprint(rows, " rows of variables, not alike"), nil, a, let(con("a"), flat(deep, v(0)), ladder(one)), m, false, 1+steps+7)
		}
	}
}

// inOneArray: a Const, applied to so many Consts; the Levels of each are a piece of memory, none of them the same piece.
func inOneArray(count int, memory []api.Level) api.Term {
	x := con("c")
	for i := range count {
		x = app(x, con("c", memory[i/2:len(memory)-i]...))
	}
	return x
}

// P14.1, P14.2: more Levels than could be told, in lists that lie in one array, some of them other ones that are the Same.
func TestManyLevels(t *testing.T) {
	const count, length = 1490, 46000
	memory := func(l api.Level) []api.Level {
		out := make([]api.Level, length)
		for i := range out {
			out[i] = l
		}
		return out
	}
	one, other := maxOf(param(0), succ(param(1))), maxOf(succ(param(1)), param(0))
	a, b := inOneArray(count, memory(one)), inOneArray(count, memory(other))
	if !conv.Alike(a, b) {
		t.Error("Levels that are the Same are not alike")
	}
	want(t, "many Levels", nil, a, b, great, true, 1)
	want(t, "many Levels, below", nil, app(con("f"), a), app(con("f"), let(con("a"), v(0), v(0)), b), great, false, 1)
	want(t, "many Levels, behind steps", nil, app(con("f"), a), app(con("f"), let(con("a"), b, v(0))), great, true, 3)
	for _, at := range []int{count / 2, length / 2, length - count} {
		list := memory(other)
		list[at] = param(1)
		if b := inOneArray(count, list); conv.Alike(a, b) || conv.Alike(b, a) {
			t.Errorf("with another Level at %d they are alike", at)
		}
	}
	e := with(api.Decl{Kind: api.DeclDef, Name: "d", Params: 2, Value: inOneArray(count, memory(maxOf(param(0), param(1))))})
	want(t, "many Levels of a definition", e, con("d", one, other), con("d", other, one), great, true, 1)
	want(t, "many Levels of a definition, behind a step", e, app(con("d", param(0), succ(param(1))), con("a")), app(a, con("a")), great, true, 2)
	want(t, "many other Levels of a definition", e, app(con("d", param(0), param(1)), con("a")), app(a, con("a")), great, false, 3)
}

// P14.1: Levels as great as may be, that are the Same and are not alike in any part.
func TestGreatLevels(t *testing.T) {
	tall := func(l api.Level) api.Level {
		for range api.MaxLevel - 2 {
			l = succ(l)
		}
		return l
	}
	wide := func(i int) api.Level {
		l := maxOf(maxOf(param(i%4), param((i+1)%4)), maxOf(param((i+2)%4), param((i+3)%4)))
		return maxOf(maxOf(l, l), maxOf(l, l))
	}
	for i := range 4 {
		a, b := row(con("f"), sortOf(wide(0)), 500), row(con("f"), sortOf(wide(i)), 500)
		want(t, "wide Levels", nil, a, b, great, true, 1)
		want(t, "wide Levels and less", nil, a, app(row(con("f"), sortOf(wide(i)), 499), sortOf(param(0))), great, false, 501)
	}
	a, b := tall(maxOf(param(0), param(1))), tall(maxOf(param(1), param(0)))
	want(t, "tall Levels", nil, sortOf(a), sortOf(b), great, true, 1)
	want(t, "tall Levels, one taller", nil, sortOf(a), sortOf(tall(succ(maxOf(param(1), param(0))))), great, false, 1)
}

// P14.2: what no pair has any more is not kept, however often new terms come that are soon unlike.
func TestNothingIsKept(t *testing.T) {
	const rounds, parts = 1800, 20000
	huge := row(con("q"), v(0), parts/2)
	value := func(name, identity string) api.Term { // a Lam around !((f (identity a)) ((\a. \a. #1 (identity b)) huge)). (name #1)
		by := func(x string) api.Term { return app(con(identity), con(x)) }
		return lam(con("a"), pi(app(con("f"), by("a"), app(of(`\a. \a. #1`), by("b"), huge)), app(con(name), v(1))))
	}
	e := with(def("i", 0, `\a. #0`), def("j", 0, `\a. #0`),
		api.Decl{Kind: api.DeclDef, Name: "d", Value: value("d", "i")}, api.Decl{Kind: api.DeclDef, Name: "e", Value: value("e", "j")})
	var before, after runtime.MemStats
	runtime.ReadMemStats(&before)
	m := api.Meter{Fuel: 20 * rounds, Cells: 4 * parts}
	if is, n, err := conv.Conv(e, app(con("d"), con("c")), app(con("e"), con("c")), m); is || n.Fuel != 0 || err != api.ErrFuel {
		t.Errorf("%v, %v, %d, want ErrFuel", is, n, err)
	}
	runtime.ReadMemStats(&after)
	if most := uint64(1 << 31); after.HeapSys > before.HeapSys+most {
		t.Errorf("%d bytes more, want at most %d", after.HeapSys-before.HeapSys, most)
	}
}
