package term_test

import (
	"fmt"
	"testing"

	"touchstone/api"
	"touchstone/level"
	"touchstone/term"
)

// tall: so many Succs, one in the other, around end.
func tall(n int, end api.Level) api.Level {
	for range n {
		end = succ(end)
	}
	return end
}

// wide: a level of 2^deep - 1 parts, each in memory of its own, with end at its ends.
func wide(deep int, end api.Level) api.Level {
	if deep == 1 {
		return end
	}
	return maxi(wide(deep-1, end), wide(deep-1, end))
}

// tilted: a level that is so deep by the Args[side] of each part.
func tilted(side, deep int, end api.Level) api.Level {
	for range deep - 1 {
		args := make([]api.Level, 2)
		args[side] = end
		args[1-side] = succ(w)
		end = api.Level{Kind: api.LevelImax, Args: args}
	}
	return end
}

// doubledLevel: a level of 2^(n+1) - 1 parts, in little memory.
func doubledLevel(n int, end api.Level) api.Level {
	for range n {
		end = maxi(end, end)
	}
	return end
}

// great: levels far beyond those that may be, by what they are, each with end at an end.
func great(end api.Level) map[string]api.Level {
	flat := make([]api.Level, 300000)
	flat[len(flat)-1] = end
	return map[string]api.Level{
		"70,001 deep":             tall(70000, end),
		"300,001 deep":            tall(300000, end),
		"131,071 parts":           wide(17, end),
		"524,287 parts":           wide(19, end),
		"deep by its first Args":  tilted(0, 150000, end),
		"deep by its second Args": tilted(1, 150000, end),
		"300,000 Args":            {Kind: api.LevelMax, Args: flat},
		"shared parts":            doubledLevel(18, end),
		"a tall one, shared":      doubledLevel(1, tall(200000, end)),
	}
}

// P5.2: Equal of terms with great Levels, that are alike, and that are unlike at their ends alone.
func TestEqualGreatLevels(t *testing.T) {
	ends := map[string]api.Level{"Kind": {Kind: api.LevelParam}, "N": {N: 1}, "Args": {Args: []api.Level{zero}}, "an empty list": {Args: []api.Level{}}}
	all := great(zero)
	for field, end := range ends {
		for what, other := range great(end) {
			l := all[what]
			for _, of := range []func(api.Level) api.Term{sort, constOf, deepConst} {
				alike := field == "an empty list"
				if term.Equal(of(l), of(other)) != alike || term.Equal(of(other), of(l)) != alike {
					t.Errorf("Equal of Levels with %s, the ends of one with another %s: %v", what, field, !alike)
				}
			}
		}
	}
}

// constOf: a Const that has l as the last of its Levels.
func constOf(l api.Level) api.Term { return con("c", u, succ(w), l) }

// deepConst: a term with l below binders, twice, and another part behind.
func deepConst(l api.Level) api.Term {
	return lam(sort(l), let(prop, c, app(con("c", l, u), v(1))))
}

// Levels that share memory within themselves have more parts than can be gone through one by one.
func TestEqualShared(t *testing.T) {
	for _, x := range []struct {
		what string
		a, b api.Term
		want bool
	}{
		{"doubled", sort(doubledLevel(80, u)), sort(doubledLevel(80, u)), true},
		{"doubled, unlike at their ends", sort(doubledLevel(80, u)), sort(doubledLevel(80, w)), false},
		{"doubled, one deeper", sort(doubledLevel(80, u)), sort(doubledLevel(81, u)), false},
		{"doubled, shared otherwise", sort(doubledLevel(60, doubledLevel(20, u))), sort(doubledLevel(60, wide(21, u))), true},
		{"doubled, one end of many unlike", sort(doubledLevel(60, maxi(wide(20, u), wide(20, u)))), sort(doubledLevel(60, maxi(wide(20, u), maxi(wide(19, u), wide(19, w))))), false},
		{"many that share one", bushy(api.TermApp, 1<<20-1, sort(tall(70000, u))), bushy(api.TermApp, 1<<20-1, sort(tall(70000, u))), true},
		{"many that share one, the last unlike", app(bushy(api.TermApp, 100001, sort(tall(70000, u))), sort(tall(70000, u))), app(bushy(api.TermApp, 100001, sort(tall(70000, u))), sort(tall(70000, w))), false},
		{"many with many", bushy(api.TermApp, 100001, con("c", make([]api.Level, 100000)...)), bushy(api.TermApp, 100001, con("c", make([]api.Level, 100000)...)), true},
	} {
		if got := term.Equal(x.a, x.b); got != x.want {
			t.Errorf("Equal of Levels, %s: %v", x.what, got)
		}
		if got := term.Equal(x.b, x.a); got != x.want {
			t.Errorf("Equal of Levels, %s, the other way round: %v", x.what, got)
		}
	}
}

// beginnings: a level of many that have the first two of three Levels; just the one at the place has all three.
func beginnings(three []api.Level, place int) api.Level {
	list := make([]api.Level, 400000)
	for i := range list {
		list[i] = api.Level{Kind: api.LevelMax, Args: three[:2]}
	}
	list[place].Args = three
	return api.Level{Kind: api.LevelMax, Args: list}
}

// Lists that begin in one place, and are not as long, are not one list.
func TestEqualBeginnings(t *testing.T) {
	for _, place := range []int{0, 200000, 399999} {
		a := sort(beginnings([]api.Level{u, w, zero}, place))
		if !term.Equal(a, sort(beginnings([]api.Level{u, w, zero}, place))) || term.Equal(a, sort(beginnings([]api.Level{u, w, u}, place))) || term.Equal(a, sort(beginnings([]api.Level{u, w, zero}, 77))) {
			t.Errorf("Equal takes lists that begin in one place as one, at %d", place)
		}
		want(t, "Lift of lists that begin in one place", term.Lift(a, 1, 0), a)
	}
}

// R1: Equal ends, also of many Levels without end, that are alike as far as one looks.
func TestEqualWithoutEnd(t *testing.T) {
	for _, args := range []int{1, 2, 3, 60000} {
		for _, other := range []int{1, 2, 3, 60000} {
			a := bushy(api.TermApp, 20001, con("c", ringLevel(args), ringLevel(other)))
			b := bushy(api.TermApp, 20001, con("c", ringLevel(args), ringLevel(args)))
			if got := term.Equal(a, b); got && args != other {
				t.Errorf("rings of %d and %d Args are alike", args, other)
			}
		}
	}
	if term.Equal(sort(ringLevel(2)), sort(doubledLevel(80, u))) || term.Equal(sort(doubledLevel(80, u)), sort(ringLevel(2))) {
		t.Error("a ring is like one with an end")
	}
}

// newLevels tells whether the Levels of told are new memory, held against those of l.
func newLevels(l api.Level, told ...api.Term) bool {
	given, got := newMemory(), newMemory()
	given.addLevels([]api.Level{l})
	for _, a := range told {
		got.addLevels(a.Levels)
		got.addTerms(a.Args)
	}
	return got.isNew(given)
}

// P5.3, P5.4, P5.5: Lift, Put, Spine and Apply of terms with great Levels.
func TestTurnsOfGreatLevels(t *testing.T) {
	t.Parallel()
	for what, l := range great(u) {
		x := sort(l)
		lift, put := term.Lift(lam(x, app(v(0), v(1))), 1, 0), term.Put(app(v(0), app(v(1), x)), x)
		want(t, "Lift of a Level with "+what, lift, lam(x, app(v(0), v(2))))
		want(t, "Put of a Level with "+what, put, app(x, app(v(0), x)))
		want(t, "Put below a binder of a Level with "+what, term.Put(lam(c, v(1)), x), lam(c, x))
		want(t, "Put into a Level with "+what, term.Put(x, c), x)
		apply := term.Apply(x, []api.Term{c, constOf(l)})
		want(t, "Apply of a Level with "+what, apply, app(app(x, c), constOf(l)))
		head, args := term.Spine(app(app(x, c), constOf(l)))
		want(t, "the head of a Spine with "+what, head, x)
		if len(args) != 2 || !alike(args[0], c) || !alike(args[1], constOf(l)) {
			t.Errorf("Spine of a Level with %s: %d Args", what, len(args))
		}
		if !newLevels(l, lift, put) || !newLevels(l, apply, head, args[len(args)-1]) {
			t.Errorf("a Level with %s is shared", what)
		}
	}
}

// P5.3: how great a term is that is put nowhere is all the same.
func TestPutNowhere(t *testing.T) {
	for _, x := range []api.Term{sort(tall(70000, u)), sort(doubledLevel(30, u)), con("c", doubledLevel(80, u)), bushy(api.TermApp, 1<<20-1, c)} {
		want(t, "Put of a great term nowhere", term.Put(lam(v(1), app(v(0), v(2))), x), lam(v(0), app(v(0), v(1))))
	}
}

// P5.4: Levels is level.Put of each Level, of great ones and ones without end too, and by these.
func TestLevelsOfGreatLevels(t *testing.T) {
	t.Parallel()
	all := great(u)
	for n := range 4 { // level.Put tells no more than some 2^16 parts: around these
		all[fmt.Sprint("so deep: ", n)] = tall(1<<16-2+n, u)
	}
	all["doubled parts"], all["a ring by one"], all["a ring by two"] = doubledLevel(80, u), ringLevel(1), ringLevel(2)
	for what, l := range all {
		x := lam(sort(l), app(con("c", w, l), sort(maxi(u, w))))
		for _, by := range [][]api.Level{nil, {succ(w)}, {l}, {u, l}} {
			want(t, "Levels of a Level with "+what, term.Levels(x, by), leveled(x, by))
		}
	}
}

// leveled: Levels, as the chapter says.
func leveled(t api.Term, by []api.Level) api.Term {
	out := api.Term{Kind: t.Kind, N: t.N, Name: t.Name}
	for _, l := range t.Levels {
		out.Levels = append(out.Levels, level.Put(l, by))
	}
	for _, a := range t.Args {
		out.Args = append(out.Args, leveled(a, by))
	}
	return out
}

// Levels ends, and is told, also where level.Put tells nothing of each of many Levels.
func TestLevelsOfMany(t *testing.T) {
	many := bushy(api.TermApp, 1<<20-1, sort(maxi(u, w)))
	for what, l := range map[string]api.Level{"tall": tall(70000, u), "doubled": doubledLevel(80, u), "a ring": ringLevel(2), "tall on what is doubled": tall(300000, doubledLevel(80, u))} {
		if got := term.Levels(many, []api.Level{zero, l}); !term.Equal(got, bushy(api.TermApp, 1<<20-1, prop)) {
			t.Errorf("Levels of many by one that is %s", what)
		}
	}
	rings := bushy(api.TermApp, 20001, con("c", ringLevel(1), ringLevel(2), ringLevel(60000)))
	if got := term.Levels(rings, nil); !term.Equal(got, bushy(api.TermApp, 20001, con("c", zero, zero, zero))) {
		t.Error("Levels of rings")
	}
}

// Levels that share memory are copied as often as they stand there, as long as an answer may be so great.
func TestLevelsCopied(t *testing.T) {
	shared := doubledLevel(9, u) // 2^10 - 1 parts
	for _, x := range []struct {
		what string
		t    api.Term
		told bool
	}{
		{"2^20 parts, in many Consts", bushy(api.TermApp, 1<<11-1, con("c", shared)), true},
		{"2^20 parts, one below many", sort(tall(1<<18, doubledLevel(19, u))), true},
		{"2^26 parts and more, in many Consts", bushy(api.TermApp, 1<<17+1001, con("c", shared)), false},
		{"2^26 parts and more, in one Const", con("c", doubledLevel(24, u), doubledLevel(24, u), shared), false},
		{"2^27 parts", sort(doubledLevel(26, u)), false},
	} {
		if got := term.Lift(x.t, 1, 0); term.Equal(got, x.t) != x.told || alike(got, api.Term{}) == x.told {
			t.Errorf("Lift of Levels with %s: told %v", x.what, !x.told)
		}
	}
}
