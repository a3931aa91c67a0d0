package whnf_test

import (
	"fmt"
	"math"
	"testing"

	"touchstone/api"
	"touchstone/term"
	"touchstone/whnf"
)

// bushy: a term of so many parts (an odd number), as flat as may be, each of its ends leaf.
func bushy(parts int, leaf api.Term) api.Term {
	if parts == 1 {
		return leaf
	}
	one := (parts - 1) / 2
	if one%2 == 0 {
		one--
	}
	return app(bushy(one, leaf), bushy(parts-1-one, leaf))
}

// row: f, applied to so many of a.
func row(f, a api.Term, count int) api.Term {
	for range count {
		f = app(f, a)
	}
	return f
}

// tower: so many Lams, one in the other, around end.
func tower(lams int, end api.Term) api.Term {
	for range lams {
		end = lam(con("a"), end)
	}
	return end
}

// size: how many parts t has, however great it is and deep by its first Args.
func size(t api.Term) int {
	n := 1
	for {
		for _, a := range t.Args[min(1, len(t.Args)):] {
			n += size(a)
		}
		if len(t.Args) == 0 {
			return n
		}
		n++
		t = t.Args[0]
	}
}

// P13.1, P13.2: the greatest terms of which something is promised are told as they are where no step is taken.
func TestGreatStays(t *testing.T) {
	const most = 1<<20 - 1
	for what, x := range map[string]api.Term{
		"flat": bushy(most, con("a", succ(param(1)))), "a row": row(con("a"), v(3), (most-1)/2), "a tower": tower((most-1)/2, v(most)),
		"a row of Lams": app(con("a"), tower((most-3)/2, v(7))),
	} {
		u, did, n, err := whnf.Once(common(), x, api.Meter{})
		if did || !term.Equal(u, x) || n != (api.Meter{}) || err != api.OK {
			t.Errorf("Once of %s of %d parts: %d parts, %v, %v, %d", what, most, term.Size(u, 1<<21), did, n, err)
		}
		u, n, err = whnf.Whnf(common(), x, api.Meter{Fuel: 4})
		if !term.Equal(u, x) || n != (api.Meter{Fuel: 4}) || err != api.OK {
			t.Errorf("Whnf of %s of %d parts: %d parts, %v, %d", what, most, term.Size(u, 1<<21), n, err)
		}
	}
}

// P13.1: what is made may be greater than all that may be handed in; it fits just if there are as many cells.
func TestGreatMade(t *testing.T) {
	const part, times = 1<<17 + 1, 20
	big := bushy(part, con("c"))
	x := app(lam(con("a"), row(con("f"), v(0), times)), big)
	want := 1 + times*(part+1)
	u, did, n, err := whnf.Once(nil, x, api.Meter{Fuel: 2, Cells: want})
	if !did || size(u) != want || n.Fuel != 1 || err != api.OK {
		t.Errorf("Once: %d parts, %v, %v, %d, want %d parts", size(u), did, n, err, want)
	}
	for at := u; at.Kind == api.TermApp; at = at.Args[0] {
		if !term.Equal(at.Args[1], big) {
			t.Fatal("Once: another argument than was put in")
		}
	}
	if u, did, n, err := whnf.Once(nil, x, api.Meter{Fuel: 2, Cells: want - 1}); did || size(u) != 1 || n.Fuel != 1 || err != api.ErrCells {
		t.Errorf("Once with a cell less: %d parts, %v, %v, %d, want ErrCells", size(u), did, n, err)
	}
}

// P13.1: what would be made has more parts than any memory holds: it does not fit, whatever variables are free in it.
func TestTooGreatToMake(t *testing.T) {
	const part = 1<<18 + 1
	for _, leaf := range []api.Term{con("c"), v(2)} {
		big := bushy(part, leaf)
		for what, x := range map[string]api.Term{
			"flat":             app(lam(con("a"), bushy(part, v(0))), big),
			"in a row":         app(lam(con("a"), row(v(0), v(0), part/2)), big),
			"below many Lams":  app(lam(con("a"), belowLams(part/4)), big),
			"by a Let":         let(con("a"), big, bushy(part, v(0))),
			"by a recursor":    app(con("r"), con("C"), bushy(part, v(0)), row(con("k"), con("b"), 3000)),
			"with a great arg": app(con("r"), big, con("c"), row(con("k"), con("b"), 3000)),
		} {
			e := with(manyFields(3000), rec("r", 0, "I"))
			for _, cells := range []int{0, 1000, api.MaxCells, 1 << 20, math.MaxInt} { // with the last it fits, and is too great to be told
				u, did, n, err := whnf.Once(e, x, api.Meter{Fuel: 3, Cells: cells})
				if did || !term.Equal(u, api.Term{}) || n != (api.Meter{Fuel: 2, Cells: cells}) || err != api.ErrCells {
					t.Errorf("%s, with %d cells: %d parts, %v, %v, %d, want ErrCells", what, cells, size(u), did, n, err)
				}
			}
		}
	}
}

// belowLams: a term with so many Lams, one in the other, and one more variable below each.
func belowLams(lams int) api.Term {
	t := con("a")
	for i := range lams {
		t = app(lam(con("a"), t), v(lams-1-i))
	}
	return t
}

// manyFields: a family with a constructor of so many fields, each below a Pi.
func manyFields(count int) api.Decl {
	typ := con("I")
	for range count {
		typ = pi(pi(con("a"), con("I")), typ)
	}
	return api.Decl{Kind: api.DeclFamily, Name: "I", Type: of("*0"), Ctors: []api.Ctor{{Name: "k", Type: typ}}}
}

// P13.2: what arises on the way may be greater than all that may be handed in, and is gone again.
func TestGreatOnTheWay(t *testing.T) {
	for _, leaf := range []api.Term{con("c"), v(2)} {
		x := app(lam(con("a"), app(lam(con("a"), app(con("b"), v(3))), bushy(1<<17+1, v(0)))), bushy(1<<18+1, leaf))
		m := api.Meter{Fuel: 9, Cells: math.MaxInt}
		if u, n, err := whnf.Whnf(nil, x, m); !term.Equal(u, app(con("b"), v(1))) || n != (api.Meter{Fuel: 7, Cells: math.MaxInt}) || err != api.OK {
			t.Errorf("Whnf: %s, %v, %d, want (b #1) behind two steps", show(u), n, err)
		}
		parts := 1 + 5 + (1<<17 + 1) + (1<<16+1)*(1<<18)
		for cells, want := range map[int]api.Errno{parts: api.OK, parts - 1: api.ErrCells} {
			if u, n, err := whnf.Whnf(nil, x, api.Meter{Fuel: 9, Cells: cells}); err != want || n.Fuel != map[api.Errno]int{api.OK: 7, api.ErrCells: 8}[want] {
				t.Errorf("Whnf with %d cells: %s, %v, %d, want %d", cells, show(u), n, err, want)
			}
		}
	}
}

// P13.2: a term that is twice as great behind each step, with a variable that is free in it, comes to its end at once.
func TestDoubledOnTheWay(t *testing.T) {
	for _, leaf := range []api.Term{con("c"), v(5)} {
		x := con("b")
		for range 58 {
			x = app(lam(con("a"), x), app(v(0), v(0)))
		}
		x = app(lam(con("a"), x), leaf)
		if u, n, err := whnf.Whnf(nil, x, api.Meter{Fuel: 100, Cells: math.MaxInt}); !term.Equal(u, con("b")) || n.Fuel != 41 || err != api.OK {
			t.Errorf("Whnf: %s, %v, %d, want b behind 59 steps", show(u), n, err)
		}
		if u, n, err := whnf.Whnf(nil, x, api.Meter{Fuel: 100, Cells: 1 << 20}); !term.Equal(u, api.Term{}) || n.Fuel < 70 || err != api.ErrCells {
			t.Errorf("Whnf with 2^20 cells: %s, %v, %d, want ErrCells", show(u), n, err)
		}
	}
}

// P13.1, P13.2: what a step makes is counted as far as there may be cells: it fits just as many as it has parts.
func TestCountsUpToAllCells(t *testing.T) {
	const lets, fuel = 70, 1000
	x := con("d")
	for range lets - 1 {
		x = let(con("a"), app(v(0), v(0)), x)
	}
	x = let(con("a"), con("c"), x)
	// Behind so many steps: a Let of a value of 2^(steps+1) - 1 parts, and the others.
	size := func(steps int) int { return 1<<(steps+1) + 5*(lets-1-steps) + 2 }
	fails := map[int]int{math.MaxInt: 62, math.MaxInt - 1: 62} // cells, and which step makes what does not fit
	for steps := 3; steps <= 61; steps++ {
		fails[size(steps)] = steps + 1
		fails[size(steps)-1] = steps
	}
	for cells, steps := range fails {
		m := api.Meter{Fuel: fuel, Cells: cells}
		if u, n, err := whnf.Whnf(nil, x, m); !term.Equal(u, api.Term{}) || n != (api.Meter{Fuel: fuel - steps, Cells: cells}) || err != api.ErrCells {
			t.Errorf("with %d cells: %s, %v, %d, want ErrCells behind %d steps", cells, show(u), n, err, steps)
		}
	}
	// The last step of as many as fit ends in what is small.
	for lets := 2; lets <= 62; lets++ {
		x := con("d")
		for range lets - 1 {
			x = let(con("a"), app(v(0), v(0)), x)
		}
		x = let(con("a"), con("c"), x)
		m := api.Meter{Fuel: fuel, Cells: math.MaxInt}
		if u, n, err := whnf.Whnf(nil, x, m); !term.Equal(u, con("d")) || n.Fuel != fuel-lets || err != api.OK {
			t.Errorf("%d Lets: %s, %v, %d, want d", lets, show(u), n, err)
		}
	}
}

// P13.1, P13.2: what one step makes is far more than can be counted.
func TestMoreThanCanBeCounted(t *testing.T) {
	for count := 4; count < 70; count++ {
		x := row(con("f"), v(0), count)
		for range 61 { // the last Var 0 comes to 2^62 - 1 parts
			x = app(lam(con("a"), x), app(v(0), v(0)))
		}
		x = app(lam(con("a"), x), con("c"))
		m := api.Meter{Fuel: 100, Cells: math.MaxInt}
		if u, n, err := whnf.Whnf(nil, x, m); !term.Equal(u, api.Term{}) || n != (api.Meter{Fuel: 100 - 62, Cells: math.MaxInt}) || err != api.ErrCells {
			t.Errorf("%d times 2^62 - 1 parts: %s, %v, %d, want ErrCells behind 62 steps", count, show(u), n, err)
		}
	}
}

// P13.1, P13.2: majors in majors, as deep as parts may be nested, that come to a constructor, or to none.
func TestManyMajors(t *testing.T) {
	const deep = 1 << 16
	e := common()
	r := of(`(((Nat.rec{0} C) zero) \a. \a. (suc zero))`)
	for _, x := range []struct {
		end, want string // itself, where none is named
		steps     int
	}{{"zero", "zero", deep}, {"two", "(suc zero)", 1 + 3*deep}, {"a", "", 0}, {"(two a)", "", 1}} {
		from := of(x.end)
		for range deep {
			from = app(r, from)
		}
		want := from
		if x.want != "" {
			want = of(x.want)
		}
		m := api.Meter{Fuel: 4 * deep, Cells: 40}
		if u, n, err := whnf.Whnf(e, from, m); !term.Equal(u, want) || n != (api.Meter{Fuel: m.Fuel - x.steps, Cells: 40}) || err != api.OK {
			t.Errorf("%s below %d recursors: %d parts, %v, %d, want %d steps", x.end, deep, term.Size(u, 1<<20), n, err, x.steps)
		}
		if _, did, n, err := whnf.Once(e, from, m); did != (x.want != "") || err != api.OK || n.Fuel < m.Fuel-x.steps {
			t.Errorf("Once of %s below %d recursors: %v, %v, %d", x.end, deep, did, n, err)
		}
	}
}

// P13.2: majors that come one in the other without end, as long as there is fuel, however much that is.
func TestMajorsWithoutEnd(t *testing.T) {
	l := []api.Decl{
		family("Empty", 0, "*0"), rec("Empty.rec", 1, "Empty"), family("Nat", 0, "*S0", "zero", "Nat", "suc", "!Nat. Nat"), rec("Nat.rec", 1, "Nat"),
		def("sink", 0, "((Empty.rec{0} C) sink)"), def("of", 1, "((Empty.rec{Mp0p0} C{p0}) of{p0})"), def("far", 0, `\a. ((Empty.rec{0} C) (far #0))`),
		def("by", 0, `((((Nat.rec{0} C) a) \a. by) (\a. #0 by))`), def("last", 0, "((Empty.rec{0} D) r0)"),
	}
	for i := range 100 { // round by r100, r101, .. r199 behind r0 to r99
		l = append(l, def(fmt.Sprint("r", i), 0, fmt.Sprintf("((Empty.rec{0} C) r%d)", i+1)), def(fmt.Sprint("r", 100+i), 0, fmt.Sprintf("((Empty.rec{0} C) r%d)", 100+(i+1)%100)))
	}
	e := with(l...)
	for _, s := range []string{`sink`, `of{p1}`, `(far a)`, `((((Nat.rec{0} C) a) b) sink)`, `by`, `r0`, `last`, `(((Empty.rec{0} C) (sink a)) sink)`, `(\a. ((Empty.rec{0} C) (#0 #0)) \a. ((Empty.rec{0} C) (#0 #0)))`} {
		for _, fuel := range []int{1, 2, 3, 4, 5, 7, 100, 1000, 1000000, api.MaxFuel, math.MaxInt} {
			want := api.Meter{Cells: 50}
			if u, n, err := whnf.Whnf(e, of(s), api.Meter{Fuel: fuel, Cells: 50}); !term.Equal(u, api.Term{}) || n != want || err != api.ErrFuel {
				t.Errorf("Whnf of %s with fuel %d: %s, %v, %d, want ErrFuel", s, fuel, show(u), n, err)
			}
		}
	}
}

// P13.2: majors in majors that are much alike, but come to an end.
func TestMajorsMuchAlike(t *testing.T) {
	const count = 300
	l := []api.Decl{
		family("Nat", 0, "*S0", "zero", "Nat", "suc", "!Nat. Nat"), rec("Nat.rec", 1, "Nat"), def(fmt.Sprint("x", count), 0, "(suc zero)"),
		def("down", 0, `\Nat. ((((Nat.rec{0} C) zero) \Nat. \Nat. ((((Nat.rec{0} C) zero) \Nat. \Nat. (suc zero)) (down #1))) #0)`),
	}
	for i := range count {
		l = append(l, def(fmt.Sprint("x", i), 0, fmt.Sprintf(`((((Nat.rec{0} C) zero) \a. \a. (suc #1)) x%d)`, i+1)))
	}
	e := with(l...)
	m := api.Meter{Fuel: 100000, Cells: 10000}
	if u, n, err := whnf.Whnf(e, con("x0"), m); !term.Equal(u, of("(suc zero)")) || n.Fuel != m.Fuel-1-4*count || err != api.OK {
		t.Errorf("%d definitions: %s, %v, %d", count, show(u), n, err)
	}
	number := con("zero")
	for range count {
		number = app(con("suc"), number)
	}
	if u, n, err := whnf.Whnf(e, app(con("down"), number), m); !term.Equal(u, con("zero")) || n.Fuel != m.Fuel-3-6*count || err != api.OK {
		t.Errorf("down from %d: %s, %v, %d", count, show(u), n, err)
	}
}

// P13.2: steps of which each makes much the same as others, but which come to an end.
func TestStepsMuchAlike(t *testing.T) {
	e := with(def("row", 0, `(row a)`), def("wide", 0, `\a. ((wide #0) #0)`), def("deep", 0, `\a. (deep (f #0))`), def("up", 1, `\a. (up{Sp0} #0)`),
		family("Nat", 0, "*S0", "zero", "Nat", "suc", "!Nat. Nat"), rec("Nat.rec", 1, "Nat"), def("down", 0, `\Nat. ((((Nat.rec{0} C) f) \Nat. \Nat. (down #1)) #0)`))
	for _, x := range []struct {
		from         string
		cells, steps int
	}{{`row`, 999, 500}, {`row`, 1000, 500}, {`row`, 1001, 501}, {`(wide a)`, 999, 993}, {`(deep a)`, 999, 993}, {`(up{0} a)`, 999, 63}} {
		m := api.Meter{Fuel: 100000, Cells: x.cells}
		if u, n, err := whnf.Whnf(e, of(x.from), m); !term.Equal(u, api.Term{}) || err != api.ErrCells || n.Fuel != m.Fuel-x.steps {
			t.Errorf("Whnf of %s with %d cells: %s, %d steps, %d, want ErrCells behind %d steps", x.from, x.cells, show(u), m.Fuel-n.Fuel, err, x.steps)
		}
	}
	for _, number := range []int{10, 63, 64, 65, 1000} {
		x := con("zero")
		for range number {
			x = app(con("suc"), x)
		}
		if u, n, err := whnf.Whnf(e, app(con("down"), x), plenty); !term.Equal(u, con("f")) || plenty.Fuel-n.Fuel != 5*number+3 || err != api.OK {
			t.Errorf("down from %d: %s, %d steps, %d", number, show(u), plenty.Fuel-n.Fuel, err)
		}
	}
}

// plenty: more than much.
var plenty = api.Meter{Fuel: 1 << 20, Cells: 1 << 20}

// P13.2: a recursor goes down a great number.
func TestGreatNumber(t *testing.T) {
	const number = 30000
	x := con("zero")
	for range number {
		x = app(con("suc"), x)
	}
	x = app(of(`(((Nat.rec{0} C) a) \a. \a. #0)`), x)
	if u, n, err := whnf.Whnf(common(), x, api.Meter{Fuel: 1 << 20, Cells: 1 << 20}); !term.Equal(u, con("a")) || n.Fuel != 1<<20-3*number-1 || err != api.OK {
		t.Errorf("Whnf: %s, %v, %d, want a", show(u), n, err)
	}
}

// P13.1: terms as deep as may be: what is put in them is lifted over all that lies between.
func TestDeep(t *testing.T) {
	const deep = 1 << 16
	u, did, _, err := whnf.Once(nil, app(lam(con("a"), tower(deep, app(v(deep), v(deep+1)))), v(4)), api.Meter{Fuel: 1, Cells: 1 << 20})
	if !did || !term.Equal(u, tower(deep, app(v(deep+4), v(deep)))) || err != api.OK {
		t.Errorf("a tower of %d Lams: %d parts, %v, %d", deep, term.Size(u, 1<<20), did, err)
	}
	x := tower(400, v(399))
	for range 400 {
		x = app(x, v(6))
	}
	if u, n, err := whnf.Whnf(nil, x, api.Meter{Fuel: 400, Cells: 10000}); !term.Equal(u, v(6)) || n.Fuel != 0 || err != api.OK {
		t.Errorf("400 Lams, 400 arguments: %s, %v, %d", show(u), n, err)
	}
}

// levelsInOneArray: a Const, applied to so many Consts; the Levels of each are the beginning of levels, each time one shorter.
func levelsInOneArray(count int, levels []api.Level) api.Term {
	x := con("c")
	for i := range count {
		x = app(x, con("c", levels[:len(levels)-i]...))
	}
	return x
}

// P13.1: Levels that are more than could be told, in lists that lie in one array, where what is told has none of them.
func TestManyLevels(t *testing.T) {
	many := levelsInOneArray(1490, make([]api.Level, 46000))
	e := with(api.Decl{Kind: api.DeclDef, Name: "d", Value: app(lam(con("a"), con("b")), many)})
	for what, x := range map[string]api.Term{
		"an argument": app(lam(con("a"), con("b")), many), "the type of a Lam": app(lam(many, con("b")), con("a")), "put in and gone": app(lam(con("a"), app(lam(con("a"), con("b")), v(0))), many),
		"a definition's": con("d"),
	} {
		if u, n, err := whnf.Whnf(e, x, api.Meter{Fuel: 9, Cells: 10000}); !term.Equal(u, con("b")) || n.Fuel < 7 || err != api.OK {
			t.Errorf("%s: %s, %v, %d, want b", what, show(u), n, err)
		}
		if _, n, err := whnf.Whnf(e, x, api.Meter{Fuel: 9, Cells: 1}); (what == "a definition's" || what == "put in and gone") != (err == api.ErrCells) || n.Fuel != 8 {
			t.Errorf("%s, with one cell: %v, %d", what, n, err)
		}
	}
}

// P13.1: a Const may have more Levels than MaxParams, if its declaration has.
func TestManyLevelsOfOne(t *testing.T) {
	levels := make([]api.Level, 1<<16)
	for i := range levels {
		levels[i] = tallOver(i%20, param(i%4))
	}
	x := con("c", levels...)
	u, did, _, err := whnf.Once(nil, app(lam(con("a"), app(v(0), v(0))), x), api.Meter{Fuel: 1, Cells: 3})
	if !did || !term.Equal(u, app(x, x)) || err != api.OK {
		t.Errorf("a Const with %d Levels: %v, %d", len(levels), did, err)
	}
	if u, did, _, err := whnf.Once(common(), con("id", levels...), much); did || !term.Equal(u, con("id", levels...)) || err != api.OK {
		t.Errorf("a definition with %d Levels: %v, %d", len(levels), did, err)
	}
}

// P13.3: what Iota makes of a constructor with many fields.
func TestManyFields(t *testing.T) {
	const count = 2000
	e := with(manyFields(count), rec("r", 0, "I"))
	x := app(con("r"), v(1), v(2), v(3), v(4))
	u, did := whnf.Iota(e, x, row(con("k"), v(5), count))
	want := row(row(v(2), v(5), count), of(`\a. (((r #2) #3) (#6 #0))`), count)
	if !did || !term.Equal(u, app(want, v(4))) {
		t.Errorf("%d parts, %v, want %d", size(u), did, size(want)+2)
	}
	for _, args := range []int{count - 1, count + 1} {
		if u, did := whnf.Iota(e, x, row(con("k"), v(5), args)); did {
			t.Errorf("with %d arguments: %s", args, show(u))
		}
	}
	if u, did, n, err := whnf.Once(e, app(con("r"), v(1), v(2), row(con("k"), v(5), count), v(4)), api.Meter{Fuel: 1, Cells: size(want) + 2}); !did || !term.Equal(u, app(want, v(4))) || err != api.OK {
		t.Errorf("Once: %s, %v, %v, %d", fmt.Sprint(size(u)), did, n, err)
	}
}
