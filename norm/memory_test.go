package norm_test

import (
	"slices"
	"testing"

	"touchstone/api"
	"touchstone/norm"
	"touchstone/term"
)

// memory: where each list begins, and how often it was met.
type memory struct {
	terms  map[*api.Term]int
	levels map[*api.Level]int
}

func newMemory(l ...api.Term) memory {
	m := memory{map[*api.Term]int{}, map[*api.Level]int{}}
	for _, t := range l {
		m.addLevels(t.Levels)
		m.addTerms(t.Args)
	}
	return m
}

// addLevels: spare room counts, too.
func (m memory) addLevels(list []api.Level) {
	if cap(list) > 0 {
		m.levels[&list[:1][0]]++
	}
	for _, l := range list {
		m.addLevels(l.Args)
	}
}

func (m memory) addTerms(list []api.Term) {
	if cap(list) > 0 {
		m.terms[&list[:1][0]]++
	}
	for _, t := range list {
		m.addLevels(t.Levels)
		m.addTerms(t.Args)
	}
}

// isNew: no list of m is one of other, and none is there twice.
func (m memory) isNew(other memory) bool {
	for p, n := range m.terms {
		if n > 1 || other.terms[p] > 0 {
			return false
		}
	}
	for p, n := range m.levels {
		if n > 1 || other.levels[p] > 0 {
			return false
		}
	}
	return true
}

// roomy: the same, in other memory, each list with spare room, in which marks stand.
func roomy(t api.Term) api.Term {
	mark := api.Term{Kind: 77, Name: "mark"}
	args := make([]api.Term, 0, len(t.Args)+2)
	for _, a := range t.Args {
		args = append(args, roomy(a))
	}
	copy(args[len(args):cap(args)], []api.Term{mark, mark})
	return api.Term{Kind: t.Kind, N: t.N, Name: t.Name, Levels: roomyLevels(t.Levels), Args: args}
}

func roomyLevels(list []api.Level) []api.Level {
	mark := api.Level{Kind: 77, N: 78}
	out := make([]api.Level, 0, len(list)+2)
	for _, l := range list {
		out = append(out, api.Level{Kind: l.Kind, N: l.N, Args: roomyLevels(l.Args)})
	}
	copy(out[len(out):cap(out)], []api.Level{mark, mark})
	return out
}

// marked: the marks of roomy stand as they stood.
func marked(t api.Term) bool {
	spare := t.Args[len(t.Args):cap(t.Args)]
	for _, m := range spare {
		if m.Kind != 77 || m.Name != "mark" || m.Args != nil || m.Levels != nil {
			return false
		}
	}
	return len(spare) == 2 && markedLevels(t.Levels) && !slices.ContainsFunc(t.Args, func(a api.Term) bool { return !marked(a) })
}

func markedLevels(list []api.Level) bool {
	spare := list[len(list):cap(list)]
	for _, m := range spare {
		if m.Kind != 77 || m.N != 78 || m.Args != nil {
			return false
		}
	}
	return len(spare) == 2 && !slices.ContainsFunc(list, func(l api.Level) bool { return !markedLevels(l.Args) })
}

// scrawl: writes into each list.
func scrawl(list []api.Term) {
	for i := range list {
		scrawl(list[i].Args)
		scrawlLevels(list[i].Levels)
		list[i] = api.Term{Kind: 55, Name: "scrawl"}
	}
}

func scrawlLevels(list []api.Level) {
	for i := range list {
		scrawlLevels(list[i].Args)
		list[i] = api.Level{Kind: 55}
	}
}

// samples: terms of all makes, some with parts that stand in them, or in their norms, twice.
func samples() (l []api.Term) {
	for _, list := range allWays {
		for _, x := range list {
			l = append(l, of(x.from))
		}
	}
	twice := of(`(f{Sp0,Mp0p1} \*Sp0. (#0 #4))`)
	l = append(l, app(twice, twice), app(lam(twice, app(con("f"), v(0), v(0))), twice), let(twice, twice, app(con("f"), v(0), lam(v(0), v(1)))),
		pi(twice, pi(twice, twice)), lam(twice, app(twice, v(0))), app(con("sorts", succ(param(0)), succ(param(0))), twice, twice), lam(con("a"), app(con("sorts", succ(param(0)), succ(param(0))), v(0))))
	k := makerOf(4)
	for range 300 {
		l = append(l, k.term(5, 3))
	}
	return l
}

// R3: what is told shares no list with what was handed in, nor with a declaration, and has no list twice.
func TestNewMemory(t *testing.T) {
	e := common()
	for _, x := range samples() {
		for _, x := range []api.Term{x, roomy(x)} {
			u, _, err := norm.Norm(e, x, much)
			if err == api.OK && !newMemory(u).isNew(newMemory(x)) {
				t.Errorf("Norm of %s: %s shares a list", show(x), show(u))
			}
			again, _, _ := norm.Norm(e, x, much)
			if !newMemory(again).isNew(newMemory(u)) {
				t.Errorf("Norm of %s: %s shares a list with what was told before", show(x), show(u))
			}
		}
	}
}

// R3: what was handed in, its spare room too, stays as it was, also where it is written into what was told;
// what was told stays as it was where it is written into what was handed in.
func TestNothingChanges(t *testing.T) {
	e := common()
	before := e.All()
	for _, x := range samples() {
		given := roomy(x)
		u, n, err := norm.Norm(e, given, much)
		want, wantN, wantErr := norm.Norm(common(), x, much)
		if !term.Equal(u, want) || n != wantN || err != wantErr {
			t.Errorf("Norm of %s: %s, %v, %d, and %s, %v, %d with spare room", show(x), show(want), wantN, wantErr, show(u), n, err)
		}
		scrawl([]api.Term{u})
		if !term.Equal(given, x) || !marked(given) {
			t.Errorf("Norm of %s: what was handed in changed", show(x))
		}
		u, _, _ = norm.Norm(e, given, much)
		scrawl([]api.Term{given})
		if !term.Equal(u, want) {
			t.Errorf("Norm of %s: what was told is written into", show(x))
		}
	}
	for i, d := range e.All() {
		if !term.Equal(d.Type, before[i].Type) || !term.Equal(d.Value, before[i].Value) || d.Name != before[i].Name {
			t.Errorf("the declaration of %s changed", d.Name)
		}
	}
}

// R4: the same call tells the same again, whatever was asked between.
func TestTheSameAgain(t *testing.T) {
	e := common()
	type told struct {
		u   string
		m   api.Meter
		err api.Errno
	}
	var first []told
	for range 2 {
		var all []told
		for _, x := range samples() {
			u, n, err := norm.Norm(e, x, much)
			all = append(all, told{show(u), n, err})
		}
		if first != nil && !slices.Equal(all, first) {
			t.Error("the second time something else is told")
		}
		first = all
	}
}
