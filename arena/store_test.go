package arena

import (
	"testing"

	"touchstone/api"
)

// doubles: a level of 2^(n+1) - 1 parts, in little memory.
func doubles(n int) (l api.Level) {
	for range n {
		l = api.Level{Kind: api.LevelMax, Args: []api.Level{l, l}}
	}
	return l
}

// levels: a Const with these.
func levels(list ...api.Level) api.Term {
	return api.Term{Kind: api.TermConst, Name: "c", Levels: list}
}

// Nothing is kept of what Cost was asked of, nor beside an error: neither terms nor Levels.
func TestNothingIsLeft(t *testing.T) {
	a := New(1)
	endless := doubles(1)
	endless.Args[0] = endless
	two := api.Term{Kind: api.TermApp, Args: []api.Term{levels(doubles(3)), levels(doubles(4))}}
	a.Cost(levels(doubles(5)))
	for _, x := range []api.Term{two, levels(doubles(6), endless), {Kind: api.TermApp, Args: []api.Term{levels(doubles(7)), {Kind: 7}}}} {
		if _, e := a.Add(x); e == api.OK {
			t.Error("it is kept")
		}
	}
	if a.terms.size() != 0 || a.lists.size() != 0 || len(a.terms.numbers) != 0 || len(a.lists.numbers) != 0 {
		t.Errorf("%d terms and %d lists are left", a.terms.size(), a.lists.size())
	}
}

// Each list is kept once: those of other terms, and ends of others, too.
func TestListsOnce(t *testing.T) {
	a := New(100)
	u, w := api.Level{Kind: api.LevelParam}, api.Level{Kind: api.LevelParam, N: 1}
	for i, x := range []api.Term{levels(doubles(9)), levels(u, w, u), levels(w, u), levels(u), levels(doubles(8), u), {Kind: api.TermSort, Levels: []api.Level{u}}} {
		a.Add(x)
		if want := []int{19, 22, 22, 22, 23, 23}[i]; a.lists.size() != want {
			t.Errorf("%d: %d lists; want %d", i, a.lists.size(), want)
		}
	}
}

// How many parts of Levels a term has, as far as may be told.
func TestWeights(t *testing.T) {
	a := New(100)
	for _, x := range []struct {
		t    api.Term
		want int
	}{
		{api.Term{}, 0}, {levels(), 0}, {levels(api.Level{}), 1}, {levels(doubles(4)), 31}, {levels(doubles(4), api.Level{}, doubles(2)), 39},
		{api.Term{Kind: api.TermApp, Args: []api.Term{levels(doubles(4)), levels(doubles(4))}}, 62}, {api.Term{Kind: api.TermLet, Args: []api.Term{levels(doubles(1)), {}, levels(doubles(4))}}, 34},
		{levels(doubles(25), api.Level{}), 1 << 26}, {levels(doubles(25), api.Level{}, api.Level{}), 1<<26 + 1}, {levels(doubles(26)), 1<<26 + 1}, {levels(doubles(100)), 1<<26 + 1}, {levels(doubles(100), doubles(99)), 1<<26 + 1},
		{api.Term{Kind: api.TermApp, Args: []api.Term{levels(doubles(25)), levels(api.Level{})}}, 1 << 26}, {api.Term{Kind: api.TermApp, Args: []api.Term{levels(doubles(25)), levels(doubles(1))}}, 1<<26 + 1},
	} {
		id, e := a.Add(x.t)
		if e != api.OK || a.terms.weights[id] != x.want {
			t.Errorf("%d parts, error %d; want %d", a.terms.weights[id], e, x.want)
		}
	}
}

// Term tells a term by its weight, or not.
func TestTermByWeight(t *testing.T) {
	a := New(1)
	a.Add(levels())
	for weight, want := range map[int]api.Errno{0: api.OK, mostLevels - 1: api.OK, mostLevels: api.OK, mostLevels + 1: api.ErrLong} {
		a.terms.weights[0] = weight
		if _, e := a.Term(0); e != want {
			t.Errorf("a weight of %d: error %d; want %d", weight, e, want)
		}
	}
}

// What a copy keeps has weights of its own.
func TestWeightsOfCopies(t *testing.T) {
	a := New(100)
	for i := range 5 { // there is spare room behind what is kept
		a.Add(api.Term{N: i})
	}
	b := a.Copy()
	a.Add(levels(doubles(1)))
	b.Add(levels(doubles(30)))
	if _, e := a.Term(5); e != api.OK {
		t.Errorf("what a copy keeps weighs on the first one: error %d", e)
	}
	a.Add(levels(doubles(31)))
	b.Add(levels(doubles(2)))
	if _, e := b.Term(6); e != api.OK {
		t.Errorf("what the first one keeps weighs on its copy: error %d", e)
	}
}
