package arena_test

import (
	"fmt"
	"math/rand"
	"testing"

	"touchstone/api"
	"touchstone/arena"
)

// places: where a list of Levels begins in memory, and where it ends.
type places struct{ from, to int }

// appliedTo: c, applied to Consts whose Levels lie at these places of memory.
func appliedTo(memory []api.Level, all []places) api.Term {
	x := c
	for _, p := range all {
		x = app(x, con("c", memory[p.from:p.to]...))
	}
	return x
}

// allApart: Levels no two of which are alike.
func allApart(count int) []api.Level {
	memory := make([]api.Level, count)
	for i := range memory {
		memory[i] = param(i)
	}
	return memory
}

// several: what place tells of 0, 1, and so on.
func several(count int, place func(i int) places) (all []places) {
	for i := range count {
		all = append(all, place(i))
	}
	return all
}

// P8.1: a term is kept, whatever memory its Levels take: more than 2^26 of them, in lists that lie in one another.
func TestManyThatOverlap(t *testing.T) {
	t.Parallel()
	const count, length = 1490, 46000
	alike, apart := make([]api.Level, length+count), allApart(length+count)
	for what, x := range map[string]struct {
		memory []api.Level
		all    []places
	}{
		"beginnings of one list, alike":                  {alike, several(count, func(i int) places { return places{0, length - i} })},
		"beginnings of one list, apart":                  {apart, several(count, func(i int) places { return places{0, length - i} })},
		"beginnings of one list, apart, the least first": {apart, several(count, func(i int) places { return places{0, length - count + i} })},
		"ends of one list, alike":                        {alike, several(count, func(i int) places { return places{i, length} })},
		"ends of one list, apart":                        {apart, several(count, func(i int) places { return places{i, length} })},
		"ends of one list, apart, the least first":       {apart, several(count, func(i int) places { return places{count - i, length} })},
		"moved ones, apart":                              {apart, several(count, func(i int) places { return places{i, i + length} })},
		"middles of one list, apart":                     {apart, several(count, func(i int) places { return places{i, length + count - i} })},
	} {
		a := arena.New(2*count + 1)
		add(t, what, a, appliedTo(x.memory, x.all), 2*count+1)
		add(t, what+", again", a, appliedTo(append([]api.Level(nil), x.memory...), x.all), 0)
		add(t, what+", the last alone", a, con("c", x.memory[x.all[count-1].from:x.all[count-1].to]...), 0)
		add(t, what+", the last with one more", a.Copy(), con("c", append(append([]api.Level(nil), x.memory[x.all[count-1].from:x.all[count-1].to]...), w, w)...), -1)
	}
}

// add: Cost of x is that, and then Add keeps so many. Below 0: it is not told for want of room.
func add(t *testing.T, what string, a *arena.Arena, x api.Term, cost int) {
	t.Helper()
	got, length := a.Cost(x), a.Len()
	id, e := a.Add(x)
	switch {
	case cost < 0:
		if got != -cost || id != 0 || e != api.ErrFull || a.Len() != length {
			t.Errorf("%s: Cost %d, Add %d, error %d, Len %d; want ErrFull", what, got, id, e, a.Len())
		}
	case got != cost || e != api.OK || a.Len() != length+cost || cost > 0 && id != a.Len()-1:
		t.Errorf("%s: Cost %d, Add %d, error %d, Len %d; want Cost %d", what, got, id, e, a.Len(), cost)
	}
}

// P8.1: the same, where the lists are the Args of Levels.
func TestArgsThatOverlap(t *testing.T) {
	t.Parallel()
	const count, length = 1490, 46000
	apart := allApart(length + 1)
	var begun, ended []api.Level
	for i := range count {
		begun = append(begun, lev(api.LevelMax, apart[:length-i]...))
		ended = append(ended, lev(api.LevelMax, apart[i:length]...))
	}
	x := app(con("c", begun...), con("c", ended...))
	a := arena.New(3)
	add(t, "Args", a, x, 3)
	add(t, "Args, again", a, app(con("c", begun...), con("c", ended...)), 0)
	ended[count-1] = lev(api.LevelMax, apart[count:length]...)
	add(t, "Args, one of them another one", a, con("c", ended...), -1)
}

// notesPay: Levels that are gone through so long that it pays to note where those behind them lie.
func notesPay() api.Term { return con("first", doubledLevel(18, u)) }

// P8.1: drawn lists in one memory are told apart by what they are, not by where they lie.
func TestDrawnThatOverlap(t *testing.T) {
	t.Parallel()
	r := rand.New(rand.NewSource(36))
	for round := range 40 {
		memory := make([]api.Level, 1+r.Intn(70))
		for i := range memory {
			memory[i] = []api.Level{u, w, zero, succ(u)}[r.Intn(1+round%4)]
			if round%3 == 0 && i > 0 && r.Intn(4) == 0 { // a list in the same memory, below
				from := r.Intn(i)
				memory[i].Args = memory[from : from+min(r.Intn(4), i-from)]
			}
		}
		all := several(60, func(int) places {
			from := r.Intn(len(memory) + 1)
			return places{from, from + r.Intn(len(memory)+1-from)}
		})
		apart := map[string]bool{}
		for _, p := range all {
			apart[fmt.Sprint(memory[p.from:p.to])] = true
		}
		wantDrawn(t, memory, all, len(apart))
	}
}

// wantDrawn: so many of these lists are apart, and each is told as it is.
func wantDrawn(t *testing.T, memory []api.Level, all []places, apart int) {
	t.Helper()
	x := v(0)
	for _, p := range all {
		x = pi(x, con("d", memory[p.from:p.to]...))
	}
	for _, ahead := range []api.Term{con("first"), notesPay()} {
		a := arena.New(1000)
		add(t, "drawn", a, app(ahead, x), 1+1+apart+len(all)+1)
		length := a.Len()
		for _, p := range all {
			one := con("d", memory[p.from:p.to]...)
			id, e := a.Add(clone(one))
			if e != api.OK || a.Len() != length {
				t.Errorf("%v: %d, error %d, Len %d", one.Levels, id, e, a.Len())
			}
			wantTerm(t, a, id, one)
		}
	}
}
