package graph

import (
	"math/rand"
	"slices"
	"testing"
)

// table: variables that there are, rising, and what becomes of them.
type table struct{ from, to []int }

// drawn: rises that were made of others, and what they do to variables of which some are not there.
func drawn(r *rand.Rand) (made rises, all table) {
	for n := range 14 {
		if r.Intn(3) > 0 {
			all.from = append(all.from, n)
		}
	}
	all.to = slices.Clone(all.from)
	for range r.Intn(7) {
		from, by := r.Intn(16), 1+r.Intn(4)
		if r.Intn(2) == 0 { // lower by one, if no variable becomes one less than from
			by = -1
			if from == 0 || slices.Contains(all.to, from-1) {
				continue
			}
		}
		made = made.then(rises{{from, by}})
		for i, n := range all.to {
			if n >= from {
				all.to[i] += by
			}
		}
	}
	return made, all
}

// Rises do what those do of which they are made, one after the other, below binders too.
func TestRisesLikeTables(t *testing.T) {
	r := rand.New(rand.NewSource(54))
	lowered := 0
	for range 100000 {
		made, all := drawn(r)
		binders := r.Intn(4)
		for n := range binders {
			if made.number(n, binders) != n {
				t.Fatalf("%v turns %d below %d binders", made, n, binders)
			}
		}
		for i, n := range all.from {
			n, want := n+binders, all.to[i]+binders
			if got := made.number(n, binders); got != want {
				t.Fatalf("%v, %d binders: %d becomes %d, want %d", made, binders, n, got, want)
			}
			if got := made.below(binders).number(n, 0); got != want {
				t.Fatalf("%v below %d binders: %d becomes %d, want %d", made, binders, n, got, want)
			}
			for m := binders; m < 20; m++ {
				if first := made.first(m, binders); n >= first != (want >= m) {
					t.Fatalf("%v, %d binders: the first that becomes %d or greater is %d, but %d becomes %d", made, binders, m, first, n, want)
				}
			}
		}
		if slices.ContainsFunc(made, func(x rise) bool { return x.by < 0 }) {
			lowered++
		}
		for i := 1; i < len(made); i++ {
			if made[i].from <= made[i-1].from || made[i].by == made[i-1].by {
				t.Fatalf("%v: a rise that is none", made)
			}
		}
		holdOf(t, made, all)
	}
	if lowered < 10000 {
		t.Errorf("%d of them lower: too few to tell", lowered)
	}
}

// holdOf: what matters to a node does the same to its variables.
func holdOf(t *testing.T, made rises, all table) {
	t.Helper()
	if len(all.from) == 0 {
		if n := (&Node{}); made.turns(n, 0) {
			t.Fatalf("%v turns what has no variables", made)
		}
		return
	}
	n := &Node{low: all.from[0], free: all.from[len(all.from)-1] + 1}
	if !slices.Equal(all.from, all.to) && !made.turns(n, 0) {
		t.Fatalf("%v does not turn variables from %d, below %d", made, n.low, n.free)
	}
	short := slices.Clone(made).of(n)
	for i, from := range all.from {
		if got := short.number(from, 0); got != all.to[i] {
			t.Fatalf("%v is %v from %d, below %d: %d becomes %d, want %d", made, short, n.low, n.free, from, got, all.to[i])
		}
	}
	beyond := made.then(rises{{all.to[len(all.to)-1] + 1, 5}})
	if got := beyond.of(n); !slices.Equal(got, short) {
		t.Fatalf("%v and %v do the same from %d, below %d, but are %v and %v", made, beyond, n.low, n.free, short, got)
	}
}
