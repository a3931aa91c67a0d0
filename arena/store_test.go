package arena

import (
	"testing"

	"touchstone/api"
)

// doubles: a level of 2^(n+1) - 1 parts, in little memory.
func doubles(n int) (l api.Level) {
	for range n {
		l = api.Level{Kind: api.LevelMax, Args: []api.Level{l, l}}
	}
	return l
}

// levels: a Const with these.
func levels(list ...api.Level) api.Term {
	return api.Term{Kind: api.TermConst, Name: "c", Levels: list}
}

// Nothing is kept of what Cost was asked of, nor beside an error: neither terms nor Levels.
func TestNothingIsLeft(t *testing.T) {
	a := New(1)
	endless := doubles(1)
	endless.Args[0] = endless
	two := api.Term{Kind: api.TermApp, Args: []api.Term{levels(doubles(3)), levels(doubles(4))}}
	a.Cost(levels(doubles(5)))
	for _, x := range []api.Term{two, levels(doubles(6), endless), {Kind: api.TermApp, Args: []api.Term{levels(doubles(7)), {Kind: 7}}}} {
		if _, e := a.Add(x); e == api.OK {
			t.Error("it is kept")
		}
	}
	if a.terms.size() != 0 || lists(a) != 0 || len(a.terms.numbers) != 0 || len(a.singles.numbers) != 0 || len(a.pairs.numbers) != 0 {
		t.Errorf("%d terms and %d lists are left", a.terms.size(), lists(a))
	}
}

// lists: how many lists of Levels, and halves of such, are kept.
func lists(a *Arena) int { return a.singles.size() + a.pairs.size() }

// Each list is kept once: those of other terms, and halves of others, too.
func TestListsOnce(t *testing.T) {
	a := New(100)
	u, w := api.Level{Kind: api.LevelParam}, api.Level{Kind: api.LevelParam, N: 1}
	for i, x := range []api.Term{levels(doubles(9)), levels(u, w, u), levels(u, w), levels(w, u), levels(u), levels(doubles(8), u), {Kind: api.TermSort, Levels: []api.Level{u}}, levels(u, w, u, w), levels(u, w, u)} {
		a.Add(x)
		if want := []int{19, 23, 23, 24, 24, 25, 25, 26, 26}[i]; lists(a) != want {
			t.Errorf("%d: %d lists; want %d", i, lists(a), want)
		}
	}
}

// applied: a Const, applied to Consts with each of these lists.
func applied(all [][]api.Level) api.Term {
	x := levels()
	for _, l := range all {
		x = api.Term{Kind: api.TermApp, Args: []api.Term{x, levels(l...)}}
	}
	return x
}

// Lists that lie in one another's memory take little room: far less than all of them would, one by one.
func TestRoomOfOverlapping(t *testing.T) {
	const count, length = 2000, 1 << 14
	memory := make([]api.Level, count+length)
	for i := range memory {
		memory[i].Kind = i
	}
	var begun, ended, moved [][]api.Level
	for i := range count {
		begun = append(begun, memory[:length-i])
		ended = append(ended, memory[i:length])
		moved = append(moved, memory[i:i+length])
	}
	for what, all := range map[string][][]api.Level{"beginnings": begun, "ends": ended, "moved ones": moved} {
		a := New(2*count + 1)
		id, e := a.Add(applied(all))
		if id != 2*count || e != api.OK || a.singles.size() > count+length || a.pairs.size() > 15*(count+length) {
			t.Errorf("%s: %d, error %d, %d Levels, %d halves", what, id, e, a.singles.size(), a.pairs.size())
		}
	}
}

// How many parts of Levels a term has, as far as may be told.
func TestWeights(t *testing.T) {
	a := New(100)
	for _, x := range []struct {
		t    api.Term
		want int
	}{
		{api.Term{}, 0}, {levels(), 0}, {levels(api.Level{}), 1}, {levels(doubles(4)), 31}, {levels(doubles(4), api.Level{}, doubles(2)), 39},
		{api.Term{Kind: api.TermApp, Args: []api.Term{levels(doubles(4)), levels(doubles(4))}}, 62}, {api.Term{Kind: api.TermLet, Args: []api.Term{levels(doubles(1)), {}, levels(doubles(4))}}, 34},
		{levels(doubles(25), api.Level{}), 1 << 26}, {levels(doubles(25), api.Level{}, api.Level{}), 1<<26 + 1}, {levels(doubles(26)), 1<<26 + 1}, {levels(doubles(100)), 1<<26 + 1}, {levels(doubles(100), doubles(99)), 1<<26 + 1},
		{api.Term{Kind: api.TermApp, Args: []api.Term{levels(doubles(25)), levels(api.Level{})}}, 1 << 26}, {api.Term{Kind: api.TermApp, Args: []api.Term{levels(doubles(25)), levels(doubles(1))}}, 1<<26 + 1},
	} {
		id, e := a.Add(x.t)
		if e != api.OK || a.terms.weights[id] != x.want {
			t.Errorf("%d parts, error %d; want %d", a.terms.weights[id], e, x.want)
		}
	}
}

// Term tells a term by its weight, or not.
func TestTermByWeight(t *testing.T) {
	a := New(1)
	a.Add(levels())
	for weight, want := range map[int]api.Errno{0: api.OK, mostLevels - 1: api.OK, mostLevels: api.OK, mostLevels + 1: api.ErrLong} {
		a.terms.weights[0] = weight
		if _, e := a.Term(0); e != want {
			t.Errorf("a weight of %d: error %d; want %d", weight, e, want)
		}
	}
}

// What a copy keeps has weights of its own.
func TestWeightsOfCopies(t *testing.T) {
	a := New(100)
	for i := range 5 { // there is spare room behind what is kept
		a.Add(api.Term{N: i})
	}
	b := a.Copy()
	a.Add(levels(doubles(1)))
	b.Add(levels(doubles(30)))
	if _, e := a.Term(5); e != api.OK {
		t.Errorf("what a copy keeps weighs on the first one: error %d", e)
	}
	a.Add(levels(doubles(31)))
	b.Add(levels(doubles(2)))
	if _, e := b.Term(6); e != api.OK {
		t.Errorf("what the first one keeps weighs on its copy: error %d", e)
	}
}
