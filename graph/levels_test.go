package graph

import (
	"math/rand"
	"testing"

	"touchstone/api"
	"touchstone/level"
	"touchstone/meter"
	"touchstone/term"
)

// drawnLevel: a level of any form, up to so deep.
func drawnLevel(r *rand.Rand, deep int) api.Level {
	l := api.Level{Kind: 1 + r.Intn(3)}
	if r.Intn(4) == 0 {
		l.Kind = r.Intn(5)
	}
	if r.Intn(30) == 0 {
		l.Kind = r.Intn(9) - 2
	}
	switch l.Kind {
	case api.LevelSucc:
		l.Args = make([]api.Level, 1)
	case api.LevelMax, api.LevelImax:
		l.Args = make([]api.Level, 2)
	case api.LevelParam:
		l.N = r.Intn(5) - r.Intn(20)/19
	}
	if deep == 0 {
		return api.Level{Kind: api.LevelParam, N: r.Intn(4)}
	}
	if r.Intn(30) == 0 {
		l.Args = make([]api.Level, r.Intn(4))
	}
	for i := range l.Args {
		l.Args[i] = drawnLevel(r, deep-1)
	}
	return l
}

func drawnLevels(r *rand.Rand, most, deep int) (list []api.Level) {
	for range r.Intn(most + 1) {
		list = append(list, drawnLevel(r, r.Intn(deep+1)))
	}
	return list
}

// P13.1: Levels with others put in are told as term.Levels tells them, and fit just if what is told does.
func TestLevelsLikeTerms(t *testing.T) {
	r := rand.New(rand.NewSource(49))
	told := map[bool]int{}
	for range 20000 {
		deep := []int{2, 4, 7}[r.Intn(3)]
		c := api.Term{Kind: api.TermConst, Name: "c", Levels: drawnLevels(r, 3, deep)}
		x := api.Term{Kind: api.TermApp, Args: []api.Term{c, c}}
		by := drawnLevels(r, 4, deep)
		if meter.Fits(api.Meter{Cells: 9}, x) != api.OK {
			continue
		}
		n := relevelBy(by).with(Read(&x))
		want := term.Levels(x, by)
		if got, ok := n.Told(); !ok || !term.Equal(got, want) {
			t.Fatalf("Levels %v in %+v: %+v, want %+v", by, x, got, want)
		}
		fits := meter.Fits(api.Meter{Cells: 9}, want) == api.OK
		if n.unfit == fits || n.size != 3 {
			t.Fatalf("Levels %v in %+v: unfit %v, size %d", by, x, n.unfit, n.size)
		}
		told[fits]++
		l := n.Args()[0].levels()
		for i, want := range want.Args[0].Levels {
			if got := l.at(i); !level.Equal(got, want) || l.Len() != len(c.Levels) {
				t.Fatalf("Level %d: %v, want %v", i, got, want)
			}
		}
	}
	if told[true] < 5000 || told[false] < 1000 {
		t.Errorf("what was drawn tells little: %v", told)
	}
}

// P13.1: as many Levels as take notes, in lists that lie in one memory, some of which do not fit.
func TestManyLevelsFit(t *testing.T) {
	memory := make([]api.Level, 4000)
	for i := range memory {
		memory[i] = api.Level{Kind: api.LevelSucc, Args: []api.Level{{Kind: api.LevelParam}}}
	}
	by := api.Level{}
	for range api.MaxLevel - 2 {
		by = api.Level{Kind: api.LevelSucc, Args: []api.Level{by}}
	}
	bad := 3000
	memory[bad] = api.Level{Kind: api.LevelSucc, Args: []api.Level{memory[bad]}}
	f := fitting{by: []api.Level{by}}
	for i := range 3000 {
		from, to := i%2000, len(memory)-i%1500
		if got, want := f.fit(memory[from:to]), bad < from || to <= bad; got != want {
			t.Fatalf("list %d, from %d to %d: %v, want %v", i, from, to, got, want)
		}
	}
	if f.met <= mostUnnoted || f.runs.Len() == 0 {
		t.Errorf("%d Levels were met: too few to tell", f.met)
	}
}
