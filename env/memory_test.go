package env_test

import (
	"fmt"
	"math/rand"
	"slices"
	"strings"
	"testing"
	"unsafe"

	"touchstone/api"
	"touchstone/env"
)

// samples: declarations of all kinds, with lists of all kinds, some of them in one another's memory; no two of one name.
func samples() []api.Decl {
	shared := app(sort(maxi(u, succ(w))), con("c", u, succ(maxi(u, w))))
	deep := lam(shared, lam(shared, let(shared, shared, app(shared, v(2)))))
	levels := []api.Level{u, maxi(u, w), succ(succ(w)), zero}
	terms := []api.Term{shared, deep, con("d", levels...), v(3)}
	ctors := []api.Ctor{{Name: "c0", Type: deep}, {Name: "c1", Type: shared}, {Name: "c2", Type: of(9, terms...)}}
	all := []api.Decl{
		{}, {Type: sort(zero)}, {Value: sort(u)}, {Kind: api.DeclAxiom, Params: 2, Type: shared}, {Kind: api.DeclDef, Params: 4, Type: deep, Value: deep},
		{Kind: api.DeclFamily, Count: 3, Type: shared, Ctors: ctors}, {Kind: api.DeclFamily, Ctors: ctors[:1]}, {Kind: api.DeclFamily, Ctors: ctors[1:]},
		{Kind: api.DeclCtor, Count: 7, Family: "f.g", Type: deep}, {Kind: api.DeclRec, Family: "h", Type: shared, Value: shared},
		{Kind: -3, Params: -1, Count: -2, Type: of(-1, terms[1:]...), Value: of(77, terms[:3]...), Ctors: ctors[:2]},
		{Kind: 6, Type: con("c", levels[:2]...), Value: con("c", levels[1:]...), Ctors: []api.Ctor{{Type: con("c", levels[1:3]...)}, {Type: app(con("e", levels...), of(0, terms[2:]...))}}},
	}
	r := rand.New(rand.NewSource(11))
	for range 60 {
		all = append(all, chance(r))
	}
	for i := range all {
		all[i].Name = fmt.Sprintf("s%d", i)
	}
	return all
}

func chanceLevel(r *rand.Rand, deep int) api.Level {
	l := api.Level{Kind: r.Intn(7) - 1, N: r.Intn(4)}
	for deep > 1 && r.Intn(3) > 0 {
		l.Args = append(l.Args, chanceLevel(r, deep-1))
	}
	return l
}

// chanceTerm: a term that is drawn, whole or not.
func chanceTerm(r *rand.Rand, deep int) api.Term {
	t := api.Term{Kind: r.Intn(9) - 1, N: r.Intn(4) - 1, Name: []string{"", "c", "1"}[r.Intn(3)]}
	for r.Intn(2) > 0 {
		t.Levels = append(t.Levels, chanceLevel(r, 4))
	}
	for deep > 1 && r.Intn(4) > 0 {
		t.Args = append(t.Args, chanceTerm(r, deep-1))
	}
	return t
}

func chance(r *rand.Rand) api.Decl {
	x := api.Decl{Kind: r.Intn(7), Params: r.Intn(5), Count: r.Intn(3), Family: []string{"", "f", "."}[r.Intn(3)], Type: chanceTerm(r, 5), Value: chanceTerm(r, 4)}
	for r.Intn(3) > 0 {
		x.Ctors = append(x.Ctors, api.Ctor{Name: fmt.Sprint("c", r.Intn(9)), Type: chanceTerm(r, 4)})
	}
	return x
}

// clone: the same, in other memory, each list with so much spare room, in which marks stand.
func clone(x api.Decl, spare int) api.Decl {
	x.Type, x.Value = cloneTerm(x.Type, spare), cloneTerm(x.Value, spare)
	ctors := slices.Repeat([]api.Ctor{{Name: "mark", Type: con("mark")}}, len(x.Ctors)+spare)
	for i, k := range x.Ctors {
		ctors[i] = api.Ctor{Name: k.Name, Type: cloneTerm(k.Type, spare)}
	}
	x.Ctors = ctors[:len(x.Ctors)]
	return x
}

func cloneTerm(t api.Term, spare int) api.Term {
	args := slices.Repeat([]api.Term{con("mark")}, len(t.Args)+spare)
	for i, a := range t.Args {
		args[i] = cloneTerm(a, spare)
	}
	t.Levels, t.Args = cloneLevels(t.Levels, spare), args[:len(t.Args)]
	return t
}

func cloneLevels(list []api.Level, spare int) []api.Level {
	out := slices.Repeat([]api.Level{{Kind: 77}}, len(list)+spare)
	for i, l := range list {
		out[i] = api.Level{Kind: l.Kind, N: l.N, Args: cloneLevels(l.Args, spare)}
	}
	return out[:len(list)]
}

// isMarked: the marks of clone stand as they stood.
func isMarked(x api.Decl, spare int) bool {
	rest := x.Ctors[len(x.Ctors):cap(x.Ctors)]
	for _, k := range x.Ctors {
		if !isMarkedTerm(k.Type, spare) {
			return false
		}
	}
	for _, k := range rest {
		if k.Name != "mark" || k.Type.Name != "mark" || k.Type.Args != nil {
			return false
		}
	}
	return len(rest) >= spare && isMarkedTerm(x.Type, spare) && isMarkedTerm(x.Value, spare)
}

func isMarkedTerm(t api.Term, spare int) bool {
	rest := t.Args[len(t.Args):cap(t.Args)]
	for _, m := range rest {
		if m.Name != "mark" || m.Args != nil || m.Levels != nil {
			return false
		}
	}
	return len(rest) >= spare && areMarkedLevels(t.Levels, spare) && !slices.ContainsFunc(t.Args, func(a api.Term) bool { return !isMarkedTerm(a, spare) })
}

func areMarkedLevels(list []api.Level, spare int) bool {
	rest := list[len(list):cap(list)]
	for _, m := range rest {
		if m.Kind != 77 || m.Args != nil {
			return false
		}
	}
	return len(rest) >= spare && !slices.ContainsFunc(list, func(l api.Level) bool { return !areMarkedLevels(l.Args, spare) })
}

// scrawl: writes into each field of each of l, into each list below, and its spare room.
func scrawl(l []api.Decl) {
	for i := range l {
		x := &l[i]
		scrawlTerm(&x.Type)
		scrawlTerm(&x.Value)
		ctors := x.Ctors[:cap(x.Ctors)]
		for j := range ctors {
			scrawlTerm(&ctors[j].Type)
			ctors[j].Name = "scrawl"
		}
		*x = api.Decl{Kind: 55, Params: 56, Count: 57, Name: "scrawl", Family: "scrawl"}
	}
}

func scrawlTerm(t *api.Term) {
	args := t.Args[:cap(t.Args)]
	for i := range args {
		scrawlTerm(&args[i])
	}
	scrawlLevels(t.Levels)
	*t = api.Term{Kind: 55, N: 56, Name: "scrawl"}
}

func scrawlLevels(list []api.Level) {
	list = list[:cap(list)]
	for i := range list {
		scrawlLevels(list[i].Args)
		list[i] = api.Level{Kind: 55, N: 56}
	}
}

// P11.2: who writes into what was handed in does not turn what is kept, in an Env, over it, or in its copy.
func TestHandedIn(t *testing.T) {
	for _, spare := range []int{0, 3} {
		want := samples()
		given := make([]api.Decl, len(want), len(want)+spare)
		for i := range want {
			given[i] = clone(want[i], spare)
		}
		e := env.New()
		if got := e.Add(given...); got != api.OK {
			t.Fatalf("error %d", got)
		}
		o, k := e.Over(), e.Copy()
		scrawl(given)
		wantDecls(t, "handed in", e, nil, want)
		wantDecls(t, "handed in, over it", o, want, nil)
		wantDecls(t, "handed in, a copy", k, nil, want)
	}
}

// P11.2: the same, of each by itself, and of what it shares memory with.
func TestHandedInOneByOne(t *testing.T) {
	e := env.New()
	want, given := samples(), samples()
	for i := range given {
		if got := e.Add(given[i]); got != api.OK {
			t.Fatalf("error %d", got)
		}
	}
	scrawl(given)
	wantDecls(t, "handed in one by one", e, nil, want)
}

// R3: what is handed in, its spare room too, stays as it was, also where it is refused.
func TestNothingChanges(t *testing.T) {
	const spare = 2
	want := samples()
	given := make([]api.Decl, len(want), len(want)+spare)
	for i := range want {
		given[i] = clone(want[i], spare)
	}
	e := env.New()
	for range 2 { // fine, and then taken
		e.Add(given...)
		e.All()
		for i := range given {
			e.Find(given[i].Name)
			if !alike(given[i], want[i]) || !isMarked(given[i], spare) {
				t.Errorf("%s changed", show(want[i]))
			}
		}
		if rest := given[len(given):cap(given)]; !alike(rest[0], api.Decl{}) || !alike(rest[1], api.Decl{}) {
			t.Error("the spare room of what is handed in changed")
		}
	}
}

// P11.2: who writes into what is told does not turn what is kept, nor what was told before.
func TestTold(t *testing.T) {
	want := samples()
	e := env.New()
	e.Add(want...)
	o := e.Over()
	first := e.All()
	for _, asked := range []*env.Env{e, o, e.Copy()} {
		for _, x := range want {
			got, _ := asked.Find(x.Name)
			_ = append(got.Ctors, api.Ctor{Name: "scrawl"})
			_ = append(got.Type.Args, con("scrawl"))
			_ = append(got.Type.Levels, w)
			scrawl([]api.Decl{got})
		}
		scrawl(asked.All())
		scrawl(append(asked.All(), axiom("z"))[1:])
		wantDecls(t, "told", e, nil, want)
		wantDecls(t, "told, over it", o, want, nil)
	}
	if !slices.EqualFunc(first, want, alike) {
		t.Error("what was told before is written into")
	}
}

// R3: what is told has no list of what was handed in, or told before, and no two that share memory.
func TestNewMemory(t *testing.T) {
	want := samples()
	old := memoryOf(want...)
	e := env.New()
	e.Add(want...)
	for range 2 {
		for _, x := range want {
			got, _ := e.Find(x.Name)
			m := memoryOf(got)
			if !m.isApart(old) {
				t.Errorf("Find of %s shares memory", show(x))
			}
			old.add(got)
		}
		got := e.All()
		if !memoryOf(got...).isApart(old) {
			t.Error("All shares memory")
		}
		old.add(got...)
	}
}

// texts: where all texts of these lie.
func texts(l []api.Decl) map[*byte]string {
	all := map[*byte]string{}
	put := func(s string) {
		if s != "" {
			all[unsafe.StringData(s)] = s
		}
	}
	var each func(t api.Term)
	each = func(t api.Term) {
		put(t.Name)
		for _, a := range t.Args {
			each(a)
		}
	}
	for _, x := range l {
		put(x.Name)
		put(x.Family)
		each(x.Type)
		each(x.Value)
		for _, k := range x.Ctors {
			put(k.Name)
			each(k.Type)
		}
	}
	return all
}

// P11.2: texts that were handed in are not kept either: one may be a piece of a far greater one.
func TestTexts(t *testing.T) {
	great := strings.Repeat("abcdefgh.", 1000)
	cut := func(from, to int) string { return great[from:to] }
	x := api.Decl{Kind: api.DeclFamily, Name: cut(0, 8), Family: cut(1, 3), Type: app(con(cut(2, 900)), of(8, con(cut(4, 5)))), Value: pi(con(cut(3, 6)), con(cut(2, 900)))}
	x.Ctors = []api.Ctor{{Name: cut(5, 7), Type: con(cut(6, 8))}, {Name: cut(2, 900), Type: app(con(cut(7, 8)), con(""))}}
	y := x
	y.Name, y.Type = cut(0, 7), doubled(api.TermApp, 15, con(cut(8, 10))) // so great that memory is looked at
	for _, l := range [][]api.Decl{{x}, {y}, {x, y}} {
		e := env.New()
		e.Add(l...)
		given := texts(l)
		for p, s := range texts(e.All()) {
			if _, ok := given[p]; ok {
				t.Errorf("%.30q is kept as it was handed in", s)
			}
		}
		wantDecls(t, "texts", e, nil, l)
	}
}
