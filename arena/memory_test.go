package arena_test

import (
	"math/rand"
	"slices"
	"strings"
	"testing"
	"unsafe"

	"touchstone/api"
	"touchstone/arena"
)

// scrawl: writes into each list below these.
func scrawl(list []api.Term) {
	for i := range list {
		scrawl(list[i].Args)
		scrawlLevels(list[i].Levels)
		list[i] = api.Term{Kind: 55, Name: "scrawl"}
	}
}

func scrawlLevels(list []api.Level) {
	for i := range list {
		scrawlLevels(list[i].Args)
		list[i] = api.Level{Kind: 55}
	}
}

// samples: terms with lists of all kinds, some of them in one another's memory.
func samples() []api.Term {
	shared := app(sort(maxi(u, succ(w))), v(0))
	all := []api.Term{
		sort(maxi(succ(u), w)), con("d", w, zero, succ(u), maxi(u, maxi(w, succ(u)))), lam(sort(u), app(v(0), con("c", u, u))), let(sort(succ(u)), con("d", u), app(v(0), v(1))),
		app(shared, shared), lam(shared, lam(shared, shared)), con("c", doubledLevel(4, u), doubledLevel(4, u)),
	}
	r := rand.New(rand.NewSource(9))
	for range 200 {
		all = append(all, chance(r, 5))
	}
	return all
}

// R3: who writes into what was handed to Add or Cost afterwards does not turn what is kept.
func TestHandedIn(t *testing.T) {
	for _, x := range samples() {
		a := arena.New(1000)
		given := clone(x)
		a.Cost(given)
		id, _ := a.Add(given)
		b := a.Copy()
		scrawl([]api.Term{given})
		for _, each := range []*arena.Arena{a, b} {
			wantTerm(t, each, id, x)
			wantAdd(t, each, x, id)
			wantCost(t, each, x, 0)
		}
	}
}

// R3: who writes into what Term told does not turn what is kept, nor what it told before.
func TestToldAgain(t *testing.T) {
	for _, x := range samples() {
		a := arena.New(1000)
		id, _ := a.Add(x)
		b := a.Copy()
		first, _ := a.Term(id)
		for range 2 {
			told, _ := a.Term(id)
			_ = append(told.Args, api.Term{Kind: 56})
			scrawl([]api.Term{told})
			wantTerm(t, a, id, x)
			wantTerm(t, b, id, x)
			wantAdd(t, a, x, id)
			if !alike(first, x) {
				t.Errorf("what Term told of %s is written into", show(x))
			}
		}
	}
}

// memory: where each list begins, and how often it was met.
type memory struct {
	terms  map[*api.Term]int
	levels map[*api.Level]int
}

func (m memory) addLevels(list []api.Level) {
	if len(list) > 0 {
		m.levels[&list[0]]++
	}
	for _, l := range list {
		m.addLevels(l.Args)
	}
}

func (m memory) addTerms(list []api.Term) {
	for _, t := range list {
		if len(t.Args) > 0 {
			m.terms[&t.Args[0]]++
		}
		m.addLevels(t.Levels)
		m.addTerms(t.Args)
	}
}

func memoryOf(list ...api.Term) memory {
	m := memory{map[*api.Term]int{}, map[*api.Level]int{}}
	m.addTerms(list)
	return m
}

// isNew: no list of m is one of other, and none is there twice.
func (m memory) isNew(other memory) bool {
	for p, n := range m.terms {
		if n > 1 || other.terms[p] > 0 {
			return false
		}
	}
	for p, n := range m.levels {
		if n > 1 || other.levels[p] > 0 {
			return false
		}
	}
	return true
}

// R3: what Term tells has no list of what was handed in or told before, and none twice.
func TestNewMemory(t *testing.T) {
	a := arena.New(100000)
	given, old := memoryOf(), memoryOf()
	for _, x := range samples() {
		given.addTerms([]api.Term{x})
		id, _ := a.Add(x)
		first, _ := a.Term(id)
		second, _ := a.Term(id)
		for _, told := range []api.Term{first, second} {
			if m := memoryOf(told); !m.isNew(given) || !m.isNew(old) {
				t.Errorf("Term of %s shares a list", show(x))
			}
			old.addTerms([]api.Term{told})
		}
	}
}

// roomy: the same, in lists with spare room, in which marks stand.
func roomy(t api.Term) api.Term {
	args := make([]api.Term, 0, len(t.Args)+2)
	for _, a := range t.Args {
		args = append(args, roomy(a))
	}
	mark := api.Term{Kind: 77, Name: "mark"}
	copy(args[len(args):cap(args)], []api.Term{mark, mark})
	return api.Term{Kind: t.Kind, N: t.N, Name: t.Name, Levels: roomyLevels(t.Levels), Args: args}
}

func roomyLevels(list []api.Level) []api.Level {
	out := make([]api.Level, 0, len(list)+2)
	for _, l := range list {
		out = append(out, api.Level{Kind: l.Kind, N: l.N, Args: roomyLevels(l.Args)})
	}
	mark := api.Level{Kind: 77, N: 78}
	copy(out[len(out):cap(out)], []api.Level{mark, mark})
	return out
}

// marked: the marks of roomy stand as they stood.
func marked(t api.Term) bool {
	spare := t.Args[len(t.Args):cap(t.Args)]
	moved := slices.ContainsFunc(spare, func(m api.Term) bool {
		return m.Kind != 77 || m.Name != "mark" || m.Args != nil || m.Levels != nil
	})
	return !moved && len(spare) == 2 && markedLevels(t.Levels) && !slices.ContainsFunc(t.Args, func(a api.Term) bool { return !marked(a) })
}

func markedLevels(list []api.Level) bool {
	spare := list[len(list):cap(list)]
	moved := slices.ContainsFunc(spare, func(m api.Level) bool { return m.Kind != 77 || m.N != 78 || m.Args != nil })
	return !moved && len(spare) == 2 && !slices.ContainsFunc(list, func(l api.Level) bool { return !markedLevels(l.Args) })
}

// R3: what was handed in, its spare room too, stays as it was.
func TestNothingChanges(t *testing.T) {
	a, full := arena.New(100000), arena.New(0)
	for _, x := range samples() {
		given := roomy(x)
		for _, each := range []*arena.Arena{a, full} {
			each.Cost(given)
			each.Add(given)
			each.Add(app(given, api.Term{Kind: -1}))
		}
		if !alike(given, x) || !marked(given) {
			t.Errorf("%s: what was handed in changed", show(x))
		}
	}
}

// R3: a name is not kept where it was handed in: that may be a piece of a great text.
func TestNames(t *testing.T) {
	a := arena.New(10)
	text := strings.Repeat("name", 1000)
	wantAdd(t, a, app(con(text[:4]), con(text[:5], u)), 2)
	told, _ := a.Term(2)
	for i, want := range []string{"name", "namen"} {
		got := told.Args[i].Name
		if got != want || unsafe.StringData(got) == unsafe.StringData(text) {
			t.Errorf("the name %q is kept as %q, or where it lay", want, got)
		}
	}
}

// R4: two arenas that were asked the same tell the same.
func TestAlways(t *testing.T) {
	a, b := arena.New(500), arena.New(500)
	for _, x := range samples() {
		one, e := a.Add(x)
		other, e2 := b.Add(clone(x))
		if one != other || e != e2 || a.Len() != b.Len() {
			t.Errorf("%s: %d, error %d; %d, error %d", show(x), one, e, other, e2)
		}
	}
}
