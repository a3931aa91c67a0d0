package env

import (
	"fmt"
	"math/rand"
	"testing"

	"touchstone/api"
)

// drawn: declarations whose lists are pieces of few lists, wherever these are cut; below is also what lies behind,
// so that some have no end.
func drawn(r *rand.Rand, endless bool) []*api.Decl {
	levels, terms, ctors := make([]api.Level, 1+r.Intn(40)), make([]api.Term, 1+r.Intn(40)), make([]api.Ctor, 1+r.Intn(10))
	for i := range levels {
		levels[i] = api.Level{Kind: r.Intn(5), N: i, Args: pieceOf(r, levels, i, endless)}
	}
	for i := range terms {
		terms[i] = api.Term{Kind: r.Intn(7), N: i, Name: fmt.Sprint("t", r.Intn(9)), Levels: pieceOf(r, levels, len(levels), endless), Args: pieceOf(r, terms, i, endless)}
	}
	for i := range ctors {
		ctors[i] = api.Ctor{Name: fmt.Sprint("c", i), Type: terms[r.Intn(len(terms))]}
	}
	var l []*api.Decl
	for i := range 1 + r.Intn(6) {
		l = append(l, &api.Decl{Kind: i, Name: fmt.Sprint("a", i), Type: terms[r.Intn(len(terms))], Value: terms[r.Intn(len(terms))], Ctors: pieceOf(r, ctors, len(ctors), true)})
	}
	return l
}

// pieceOf: a piece of what lies ahead of end, or of all.
func pieceOf[T any](r *rand.Rand, list []T, end int, all bool) []T {
	if all {
		end = len(list)
	}
	from := r.Intn(end + 1)
	to := from + min(r.Intn(4), r.Intn(end-from+1))
	if r.Intn(3) == 0 {
		return list[from:to:to]
	}
	return list[from:to]
}

// twins: each thing that was met, and the one that stands for it.
type twins struct {
	t      *testing.T
	ctors  map[*api.Ctor]*api.Ctor
	terms  map[*api.Term]*api.Term
	levels map[*api.Level]*api.Level
}

// pair: b stands for a, as it did before if a was met. It tells whether a is new.
func pair[T any](w *twins, all map[*T]*T, a, b *T) bool {
	if old, ok := all[a]; ok {
		if old != b {
			w.t.Fatal("a thing lies in the new memory twice")
		}
		return false
	}
	all[a] = b
	return true
}

func (w *twins) decl(a, b *api.Decl) {
	w.same(a.Kind == b.Kind && a.Name == b.Name && len(a.Ctors) == len(b.Ctors))
	w.term(&a.Type, &b.Type)
	w.term(&a.Value, &b.Value)
	for i := range a.Ctors {
		if pair(w, w.ctors, &a.Ctors[i], &b.Ctors[i]) {
			w.same(a.Ctors[i].Name == b.Ctors[i].Name)
			w.term(&a.Ctors[i].Type, &b.Ctors[i].Type)
		}
	}
}

func (w *twins) same(ok bool) {
	if !ok {
		w.t.Fatal("the new one is not the same")
	}
}

func (w *twins) term(a, b *api.Term) {
	w.same(a.Kind == b.Kind && a.N == b.N && a.Name == b.Name && len(a.Args) == len(b.Args) && cap(b.Args) == len(b.Args))
	w.levelLists(a.Levels, b.Levels)
	for i := range a.Args {
		if pair(w, w.terms, &a.Args[i], &b.Args[i]) {
			w.term(&a.Args[i], &b.Args[i])
		}
	}
}

func (w *twins) levelLists(a, b []api.Level) {
	w.same(len(a) == len(b) && cap(b) == len(b))
	for i := range a {
		if pair(w, w.levels, &a[i], &b[i]) {
			w.same(a[i].Kind == b[i].Kind && a[i].N == b[i].N)
			w.levelLists(a[i].Args, b[i].Args)
		}
	}
}

// isElsewhere: none of the things stands for one of them.
func isElsewhere[T any](all map[*T]*T) bool {
	for _, b := range all {
		if _, ok := all[b]; ok {
			return false
		}
	}
	return true
}

// New memory lies as the old one, wherever lists lie in one another: one thing for one, none of the old ones.
func TestRetraced(t *testing.T) {
	for seed := range int64(3000) {
		r := rand.New(rand.NewSource(seed))
		l := drawn(r, seed%2 == 0)
		out := retraced(l, same)
		w := twins{t, map[*api.Ctor]*api.Ctor{}, map[*api.Term]*api.Term{}, map[*api.Level]*api.Level{}}
		for i := range l {
			w.decl(l[i], &out[i])
		}
		if !isElsewhere(w.ctors) || !isElsewhere(w.terms) || !isElsewhere(w.levels) {
			t.Fatalf("seed %d: new memory is old", seed)
		}
	}
}

// room: how much new memory a ground has.
func room[T any](g *ground[T]) (all int) {
	for i := range g.plots {
		all += len(g.plots[i].fresh)
	}
	return all
}

// New memory is no greater than the old one, in whatever order lists come that lie in one another.
func TestGroundRoom(t *testing.T) {
	const count = 300
	memory := make([]int, count)
	orders := map[string]func(i int) []int{
		"beginnings, falling": func(i int) []int { return memory[:count-i] },
		"beginnings, rising":  func(i int) []int { return memory[:i+1] },
		"ends, falling":       func(i int) []int { return memory[i:] },
		"ends, rising":        func(i int) []int { return memory[count-1-i:] },
		"moved":               func(i int) []int { return memory[i:min(i+7, count)] },
		"moved back":          func(i int) []int { return memory[count-1-i : min(count+6-i, count)] },
		"one by one, then all": func(i int) []int {
			if i < count-1 {
				return memory[i*7%count : i*7%count+1]
			}
			return memory
		},
		"with room cut off": func(i int) []int { return memory[i*101%count : count : count] },
	}
	for what, list := range orders {
		var g ground[int]
		for i := range memory {
			memory[i] = 5 * i
			g.enter(list(i))
		}
		g.move(func(n *int) { *n++ })
		for i := range count {
			old, fresh := list(i), g.moved(list(i))
			for j := range old {
				if fresh[j] != old[j]+1 {
					t.Fatalf("%s: at %d is %d; want %d", what, j, fresh[j], old[j]+1)
				}
			}
		}
		if all := room(&g); all != count {
			t.Errorf("%s: room for %d; want %d", what, all, count)
		}
	}
}

// Lists that are all in plots already take no time for each thing: many great ones may lie in one.
func TestGroundLeaps(t *testing.T) {
	const count = 200000
	memory := make([]int, count)
	var g ground[int]
	g.enter(memory[count/2:])
	for i := range count / 2 {
		g.enter(memory[i : count-i])
		g.enter(memory[:count-i])
	}
	if len(g.pieces) != 2 || len(g.plots) != 2 {
		t.Errorf("%d pieces, %d plots", len(g.pieces), len(g.plots))
	}
}

// Plots that became parts of others, one after the other, are found in few steps.
func TestGroundWays(t *testing.T) {
	const count = 300000
	memory := make([]int, count)
	var g ground[int]
	for i := range memory {
		g.enter(memory[i : i+1])
	}
	for i := count - 2; i >= 0; i-- { // each becomes a part of the one ahead
		g.enter(memory[i : i+2])
	}
	for i := range memory {
		number := g.spots[&memory[i]].plot
		if s := g.outermost(spot{number, 0}); s != (spot{0, i}) || i > 0 && g.plots[number].outer != s {
			t.Fatalf("number %d: %v, by way of %v", i, s, g.plots[number].outer)
		}
	}
	if g.plots[0].length != count {
		t.Errorf("%d things", g.plots[0].length)
	}
}
