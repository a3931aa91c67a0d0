package term_test

import (
	"fmt"
	"math"
	"slices"
	"testing"

	"touchstone/api"
	"touchstone/term"
)

// memory: where each list begins, and how often it was met.
type memory struct {
	terms  map[*api.Term]int
	levels map[*api.Level]int
}

func newMemory() memory {
	return memory{map[*api.Term]int{}, map[*api.Level]int{}}
}

func (m memory) addLevels(list []api.Level) {
	if len(list) > 0 {
		m.levels[&list[0]]++
	}
	for _, l := range list {
		m.addLevels(l.Args)
	}
}

func (m memory) addTerms(list []api.Term) {
	if len(list) > 0 {
		m.terms[&list[0]]++
	}
	for _, t := range list {
		m.addLevels(t.Levels)
		m.addTerms(t.Args)
	}
}

// isNew: no list of m is one of other, and none is there twice.
func (m memory) isNew(other memory) bool {
	for p, n := range m.terms {
		if n > 1 || other.terms[p] > 0 {
			return false
		}
	}
	for p, n := range m.levels {
		if n > 1 || other.levels[p] > 0 {
			return false
		}
	}
	return true
}

// answers: what each call that tells terms tells of these.
func answers(x, y api.Term, by []api.Level) map[string][]api.Term {
	head, args := term.Spine(x)
	return map[string][]api.Term{
		"Lift by none": {term.Lift(x, 0, 0)}, "Lift": {term.Lift(x, 2, 1)}, "Put": {term.Put(x, y)}, "Put of itself": {term.Put(x, x)},
		"Levels by none": {term.Levels(x, nil)}, "Levels": {term.Levels(x, by)}, "Spine": append([]api.Term{head}, args...),
		"Apply to none": {term.Apply(x, nil)}, "Apply": {term.Apply(x, []api.Term{y, x, y})},
	}
}

// P5.5: what is told shares no list with what was handed in, and has no list twice.
func TestNewMemory(t *testing.T) {
	shared := app(sort(maxi(u, succ(w))), v(0))
	all := append(samples(9), app(shared, shared), lam(shared, lam(shared, shared)), app(app(app(shared, shared), v(0)), con("c", u, u)))
	by := []api.Level{maxi(u, w), succ(u)}
	for i, x := range all {
		y := all[len(all)-1-i]
		given := newMemory()
		given.addTerms([]api.Term{x, y})
		given.addLevels(by)
		for name, told := range answers(x, y, by) {
			got := newMemory()
			for _, a := range told {
				got.addLevels(a.Levels)
				got.addTerms(a.Args)
			}
			if !got.isNew(given) {
				t.Errorf("%s of %s, %s: a list is shared", name, show(x), show(y))
			}
		}
	}
}

// scrawl: writes into each list of t.
func scrawl(list []api.Term) {
	for i := range list {
		scrawl(list[i].Args)
		scrawlLevels(list[i].Levels)
		list[i] = api.Term{Kind: 55, Name: "scrawl"}
	}
}

func scrawlLevels(list []api.Level) {
	for i := range list {
		scrawlLevels(list[i].Args)
		list[i] = api.Level{Kind: 55}
	}
}

// P5.5: who writes into an answer does not change what was handed in, nor the other way round.
func TestWrittenInto(t *testing.T) {
	x := app(app(lam(sort(u), app(v(0), v(1))), con("c", w, maxi(u, w))), v(0))
	y := let(sort(succ(u)), con("d", u), app(v(0), v(1)))
	by := []api.Level{succ(maxi(w, u))}
	for name, told := range answers(x, y, by) {
		kept := make([]api.Term, len(told))
		for i, a := range told {
			kept[i] = clone(a)
		}
		givenX, givenY, givenBy := clone(x), clone(y), cloneLevels(by)
		again := answers(givenX, givenY, givenBy)[name]
		scrawl(again)
		if !alike(givenX, x) || !alike(givenY, y) || !slices.EqualFunc(givenBy, by, sameLevel) {
			t.Errorf("%s: what was handed in is written into", name)
		}
		again = answers(givenX, givenY, givenBy)[name]
		scrawl([]api.Term{givenX, givenY})
		scrawlLevels(givenBy)
		if !slices.EqualFunc(again, kept, alike) {
			t.Errorf("%s: what is told is written into", name)
		}
	}
}

// R3: who writes into one argument of a Spine does not change another one, nor the head.
func TestSpineApart(t *testing.T) {
	shared := app(c, sort(succ(u)))
	head, args := term.Spine(app(app(lam(shared, v(0)), shared), shared))
	scrawl(args[:1])
	_ = append(args[:1], prop)
	head2, args2 := term.Spine(app(app(lam(shared, v(0)), shared), shared))
	if !alike(head, head2) || !alike(args2[1], shared) || len(args) != 2 {
		t.Error("a Spine shares memory")
	}
	n := term.Names(app(c, d))
	n[0] = "x"
	if m := term.Names(app(c, d)); m[0] != "c" {
		t.Error("Names share memory")
	}
}

// roomy: the same, in lists with spare room, in which marks stand.
func roomy(t api.Term) api.Term {
	mark := api.Term{Kind: 77, Name: "mark"}
	args := make([]api.Term, 0, len(t.Args)+2)
	for _, a := range t.Args {
		args = append(args, roomy(a))
	}
	copy(args[len(args):cap(args)], []api.Term{mark, mark})
	return api.Term{Kind: t.Kind, N: t.N, Name: t.Name, Levels: roomyLevels(t.Levels), Args: args}
}

func roomyLevels(list []api.Level) []api.Level {
	mark := api.Level{Kind: 77, N: 78}
	out := make([]api.Level, 0, len(list)+2)
	for _, l := range list {
		out = append(out, api.Level{Kind: l.Kind, N: l.N, Args: roomyLevels(l.Args)})
	}
	copy(out[len(out):cap(out)], []api.Level{mark, mark})
	return out
}

// marked: the marks of roomy stand as they stood.
func marked(t api.Term) bool {
	spare := t.Args[len(t.Args):cap(t.Args)]
	for _, m := range spare {
		if m.Kind != 77 || m.Name != "mark" || m.Args != nil || m.Levels != nil {
			return false
		}
	}
	return len(spare) == 2 && markedLevels(t.Levels) && !slices.ContainsFunc(t.Args, func(a api.Term) bool { return !marked(a) })
}

func markedLevels(list []api.Level) bool {
	spare := list[len(list):cap(list)]
	for _, m := range spare {
		if m.Kind != 77 || m.N != 78 || m.Args != nil {
			return false
		}
	}
	return len(spare) == 2 && !slices.ContainsFunc(list, func(l api.Level) bool { return !markedLevels(l.Args) })
}

// everyCall: each call of the package, with these.
func everyCall(x, y api.Term, n int, by []api.Level) {
	term.May(x, n, n)
	term.Size(x, n)
	term.Depth(x, n)
	term.Uses(x, n)
	term.Lift(x, n, n)
	term.Equal(x, y)
	term.Equal(x, x)
	term.Put(x, y)
	term.Put(y, x)
	term.Put(x, x)
	term.Levels(x, by)
	term.Spine(x)
	term.Apply(x, []api.Term{y, x})
	term.Names(x)
}

// P5.5: what was handed in, its spare room too, stays as it was.
func TestNothingChanges(t *testing.T) {
	all := samples(10)
	by := []api.Level{maxi(u, w), succ(u)}
	for i, x := range all {
		a, b, levels := roomy(x), roomy(all[len(all)-1-i]), roomyLevels(by)
		everyCall(a, b, 1, levels)
		args := append(make([]api.Term, 0, 4), a, b)
		term.Apply(b, args)
		if !alike(a, x) || !alike(b, all[len(all)-1-i]) || !marked(a) || !marked(b) || !markedLevels(levels) || !slices.EqualFunc(levels, by, sameLevel) {
			t.Fatalf("%s: what was handed in changed", show(x))
		}
		if !alike(args[0], a) || !alike(args[1], b) || args[:3][2].Kind != 0 || args[:3][2].Args != nil {
			t.Fatalf("%s: the args changed", show(x))
		}
	}
}

// ring: a term that is below itself, in each of so many Args.
func ring(kind, args int) api.Term {
	list := make([]api.Term, args)
	t := api.Term{Kind: kind, Args: list}
	for i := range list {
		list[i] = t
	}
	return t
}

// doubled: a term of 2^n parts, in little memory.
func doubled(kind, n int, t api.Term) api.Term {
	for range n {
		t = of(kind, t, t)
	}
	return t
}

// ringLevel: a level that is below itself.
func ringLevel(args int) api.Level {
	list := make([]api.Level, args)
	l := api.Level{Kind: api.LevelMax, Args: list}
	for i := range list {
		list[i] = l
	}
	return l
}

// hostile: terms that are not whole, or have no end, or more parts than memory, or such levels.
func hostile() map[string]api.Term {
	all := notWhole()
	for kind := -1; kind <= 7; kind++ {
		all[fmt.Sprint("a ring of kind ", kind)] = ring(kind, 2)
	}
	for _, kind := range []int{api.TermVar, api.TermApp, api.TermPi, 7} {
		all[fmt.Sprint("a wide ring of kind ", kind)] = ring(kind, 60000)
		all[fmt.Sprint("doubled of kind ", kind)] = doubled(kind, 80, v(0))
	}
	many := make([]api.Level, 1000)
	doubledLevel := u
	for range 80 {
		doubledLevel = maxi(doubledLevel, doubledLevel)
	}
	for i := range many {
		many[i] = []api.Level{ringLevel(1), ringLevel(2), doubledLevel}[i%3]
	}
	all["of a ring"] = lam(prop, app(ring(api.TermPi, 2), v(0)))
	all["a ring by one"] = ring(api.TermApp, 1)
	all["a ring by three"] = ring(api.TermLet, 3)
	all["a Sort of a ring"] = sort(ringLevel(2))
	all["a Sort of a ring by one"] = sort(ringLevel(1))
	all["a Const of rings"] = con("c", many...)
	all["many Consts of rings"] = bushy(api.TermApp, 2001, con("c", many...))
	all["a Sort of what is doubled"] = sort(doubledLevel)
	all["a chain of kind 3 with one"] = chain(1<<20 + 5)
	return all
}

// chain: a term that is so deep, with one Arg a part.
func chain(deep int) api.Term {
	t := c
	for range deep - 1 {
		t = of(api.TermApp, t)
	}
	return t
}

// R1: every call ends, and none panics, whatever numbers and levels it is handed.
func TestWhateverElse(t *testing.T) {
	fine := lam(sort(u), app(v(0), app(v(1), con("c", w))))
	odd := []api.Level{{Kind: -1}, {Kind: api.LevelParam, N: 99}, {Kind: api.LevelParam, N: -1, Args: []api.Level{zero}}, ringLevel(1), ringLevel(60000)}
	for _, n := range []int{math.MinInt, math.MinInt + 1, -1, 0, 1, 1<<31 - 1, math.MaxInt - 1, math.MaxInt} {
		everyCall(fine, lam(prop, v(n)), n, odd)
		everyCall(app(v(n), con("c", odd...)), fine, n, slices.Repeat(odd, 100))
	}
}

// R1: every call ends, and none panics, whatever it is handed.
func TestWhatever(t *testing.T) {
	t.Parallel()
	fine := lam(sort(u), app(v(0), app(v(1), con("c", w))))
	for name, x := range hostile() {
		everyCall(x, fine, math.MaxInt, []api.Level{succ(u), ringLevel(2)})
		term.Apply(fine, []api.Term{fine, x, fine})
		if e := term.May(x, far+1, 4); e == api.OK {
			t.Errorf("%s: it may be", name)
		}
	}
}

// R1: terms that are as deep as fewer than 2^20 parts can be, and terms that make one that no memory holds.
func TestDeepAndGreat(t *testing.T) {
	t.Parallel()
	for kind, side := range map[int]int{api.TermApp: 0, api.TermLam: 1} {
		deep := leaning(kind, side, 1<<19, v(0))
		if n := term.Size(deep, math.MaxInt); n != 1<<20-1 {
			t.Fatalf("%d parts", n)
		}
		everyCall(deep, c, math.MaxInt, nil)
		if got := term.Lift(deep, 0, 0); !term.Equal(got, deep) {
			t.Errorf("Lift of a deep term of kind %d", kind)
		}
	}
	wide := bushy(api.TermApp, 1<<20-1, v(0))
	if got := term.Put(wide, wide); !alike(got, api.Term{}) {
		t.Error("Put of a great term into itself is told")
	}
	levels := make([]api.Level, 1<<16)
	if got := term.Put(wide, con("c", levels...)); !alike(got, api.Term{}) {
		t.Error("Put of many Levels is told")
	}
	if got := term.Apply(c, slices.Repeat([]api.Term{wide}, 40)); !alike(got, api.Term{}) {
		t.Error("Apply to many great terms is told")
	}
	if got := term.Put(wide, app(v(0), v(1))); term.Size(got, 100) != 101 {
		t.Error("Put that makes a term of more than 2^20 parts is not told")
	}
}

// Of a term without end a call tells the zero value, not a piece of it.
func TestWithoutEnd(t *testing.T) {
	t.Parallel()
	for _, x := range []api.Term{ring(api.TermApp, 2), ring(api.TermLet, 3), doubled(api.TermPi, 80, c), app(c, ring(api.TermLam, 2))} {
		for name, told := range answers(x, c, nil) {
			for _, a := range told {
				want(t, name+" of a term without end", a, api.Term{})
			}
		}
	}
	for name, got := range map[string]api.Term{"Put": term.Put(v(0), ring(api.TermApp, 2)), "Apply": term.Apply(c, []api.Term{d, ring(api.TermApp, 2), d})} {
		want(t, name+" with a term without end", got, api.Term{})
	}
}

// Of Levels without end, and ones that no memory holds, a call tells no piece either.
func TestLevelsWithoutEnd(t *testing.T) {
	for _, x := range []api.Term{sort(ringLevel(1)), app(c, sort(ringLevel(2))), con("c", u, ringLevel(3)), sort(doubledLevel(80, u)), lam(sort(maxi(u, succ(ringLevel(60000)))), v(0))} {
		head, args := term.Spine(x)
		for _, a := range append(args, head, term.Lift(x, 1, 0), term.Put(x, c), term.Put(v(0), x), term.Apply(x, nil), term.Apply(c, []api.Term{d, x})) {
			want(t, "a term with Levels without end", a, api.Term{})
		}
	}
}

// Levels that would have more parts than an answer may have are not made.
func TestLevelsTooGreat(t *testing.T) {
	great := u
	for range 14 {
		great = maxi(great, great)
	}
	many := bushy(api.TermApp, 1<<13-1, sort(u))
	if got := term.Levels(many, []api.Level{great}); !alike(got, api.Term{}) {
		t.Error("Levels that are too great are told")
	}
	if got := term.Levels(app(c, sort(u)), []api.Level{great}); !alike(got, app(c, sort(great))) {
		t.Error("Levels of a great one")
	}
}
