package graph

import (
	"math/rand"
	"testing"

	"touchstone/api"
	"touchstone/term"
)

// chance: a term that is drawn, with Vars below and above the binders around them.
func chance(r *rand.Rand, deep int) api.Term {
	if deep == 0 || r.Intn(6) == 0 {
		return api.Term{Kind: api.TermVar, N: r.Intn(9)}
	}
	t := api.Term{Kind: api.TermApp + r.Intn(4)}
	for range argCounts[t.Kind] {
		t.Args = append(t.Args, chance(r, deep-1))
	}
	return t
}

// putBelow: t with values put in, the last one for its free Var 0, as seen from outside so many binders around it.
func putBelow(t api.Term, values []api.Term, binders int) api.Term {
	around := func(kind, times int) {
		for range times {
			t = api.Term{Kind: kind, Args: []api.Term{{Kind: api.TermSort, Levels: []api.Level{{}}}, t}}
		}
	}
	around(api.TermLam, binders)
	around(api.TermPi, len(values))
	for _, v := range values {
		t = term.Put(t.Args[1], v)
	}
	for range binders {
		t = t.Args[1]
	}
	return t
}

// hold: n is told as want, and knows of itself what want is.
func hold(t *testing.T, what string, n *Node, want api.Term) {
	t.Helper()
	size, free := n.size, n.free
	got, ok := n.Told()
	if !ok || !term.Equal(got, want) {
		t.Fatalf("%s: %+v, %v, want %+v", what, got, ok, want)
	}
	least := 0
	for i := range 60 {
		if term.Uses(want, i) {
			least = i + 1
		}
	}
	if size != term.Size(want, 1<<20) || free != least {
		t.Fatalf("%s: size %d, free %d, want %d, %d", what, size, free, term.Size(want, 1<<20), least)
	}
}

// P13.1, P14.2: nodes are lifted, fed, and put in one another, as terms are (5: Lift, Put), however often and in whatever
// order, whether what was lifted was asked for between or not.
func TestNodesLikeTerms(t *testing.T) {
	r := rand.New(rand.NewSource(13))
	for range 20000 {
		x := chance(r, 1+r.Intn(6))
		n := Read(&x)
		for range 1 + r.Intn(12) {
			switch r.Intn(6) {
			case 0:
				hold(t, "asked for between", n, x)
			case 2: // a part, below what it stands below
				if count := len(x.Args); count > 0 {
					at := r.Intn(count)
					n, x = n.Args()[at], x.Args[at]
				}
			case 3:
				n, x = n.Fed(), api.Term{Kind: api.TermApp, Args: []api.Term{term.Lift(x, 1, 0), {Kind: api.TermVar}}}
			case 1:
				binders := r.Intn(3)
				var values []api.Term
				var nodes []*Node
				for range r.Intn(4) {
					v := chance(r, r.Intn(3))
					by := r.Intn(3)
					values = append(values, term.Lift(v, by, 0))
					nodes = append(nodes, lifted(Read(&v), by, 0))
				}
				n, x = putOf(nodes...).below(n, binders), putBelow(x, values, binders)
			default:
				by, from := r.Intn(4), r.Intn(9)
				n, x = lifted(n, by, from), term.Lift(x, by, from)
			}
			if term.Size(x, 3000) > 3000 {
				break
			}
		}
		hold(t, "at last", n, x)
	}
}

// What is lifted again and again, and below its binders, has all lifts in one: no more rises than variables to tell apart.
func TestFewRises(t *testing.T) {
	leaf := api.Term{Kind: api.TermApp, Args: []api.Term{{Kind: api.TermVar}, {Kind: api.TermVar, N: 5}}}
	n := Read(&leaf)
	for i := range 10000 {
		n = lifted(n, 1, i%3)
	}
	if n.late == nil || len(n.late.rises) > 3 {
		t.Errorf("%d rises, want no more than 3", len(n.late.rises))
	}
	n = Read(&leaf).Fed()
	for range 10000 {
		n = n.Fed()
	}
	if n.fed == nil || n.fed.of.size != 3 || n.size != 3+2*10001 || n.free != 6+10001 {
		t.Errorf("fed 10001 times: size %d, free %d", n.size, n.free)
	}
}
