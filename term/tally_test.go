package term

import (
	"testing"

	"touchstone/api"
)

func maxOf(a, b api.Level) api.Level {
	return api.Level{Kind: api.LevelMax, Args: []api.Level{a, b}}
}

// double: a level of 2^(n+1) - 1 parts, if end has one, in little memory.
func double(n int, end api.Level) api.Level {
	for range n {
		end = maxOf(end, end)
	}
	return end
}

// loop: a level that is below itself.
func loop(args int) api.Level {
	l := api.Level{Kind: api.LevelMax, Args: make([]api.Level, args)}
	for i := range l.Args {
		l.Args[i] = l
	}
	return l
}

// What tally counts, also where lists lie in one another's memory, and of what has no end.
func TestTally(t *testing.T) {
	zero, u, w := api.Level{}, api.Level{Kind: api.LevelParam}, api.Level{Kind: api.LevelParam, N: 1}
	pair := []api.Level{zero, zero}
	pair[0] = api.Level{Kind: api.LevelSucc, Args: pair[1:]} // a list whose end is the list below it
	for _, x := range []struct {
		what string
		l    api.Level
		by   []api.Level
		want int
	}{
		{"one", zero, nil, 1}, {"a parameter", u, nil, 1}, {"a parameter by zero", u, []api.Level{zero}, 1}, {"a parameter by another list", w, []api.Level{double(3, u)}, 1},
		{"a parameter by many", u, []api.Level{double(3, u)}, 15}, {"a parameter below 0", api.Level{Kind: api.LevelParam, N: -1}, []api.Level{double(3, u)}, 1}, {"parameters by many", maxOf(u, maxOf(w, u)), []api.Level{double(3, u), maxOf(u, u)}, 35},
		{"a parameter with Args", api.Level{Kind: api.LevelParam, N: 2, Args: pair}, []api.Level{u, u}, 4}, {"such a one, put", api.Level{Kind: api.LevelParam, Args: pair}, []api.Level{maxOf(u, u)}, 3},
		{"lists in one another", api.Level{Kind: api.LevelMax, Args: pair}, nil, 4}, {"many such lists", double(20, api.Level{Kind: api.LevelMax, Args: pair}), nil, 5<<20 - 1},
		{"2^25 parts", double(24, u), nil, 1<<25 - 1}, {"2^26 parts", maxOf(double(24, u), maxOf(double(23, u), maxOf(double(23, u), zero))), nil, 1<<26 + 2}, {"just 2^26 parts", api.Level{Kind: api.LevelSucc, Args: []api.Level{double(25, u)}}, nil, 1 << 26},
		{"more", double(26, u), nil, 1<<26 + 1}, {"far more", double(80, u), nil, 1<<26 + 1}, {"a loop by one", loop(1), nil, 1<<26 + 1}, {"a loop by two", loop(2), nil, 1<<26 + 1}, {"a wide loop", loop(60000), nil, 1<<26 + 1},
		{"itself", double(9, u), []api.Level{double(9, u)}, 1<<9*(1<<10-1) + 1<<9 - 1}, {"a loop that is put in", maxOf(u, zero), []api.Level{loop(2)}, 1<<26 + 1}, {"a loop that is not", maxOf(u, zero), []api.Level{zero, loop(2)}, 3},
	} {
		want := min(x.want, mostLevels+1)
		counts := tally{by: x.by}
		for range 3 { // what it has noted must not turn what it tells
			if got := counts.of(&x.l); got != want {
				t.Errorf("%s: %d parts; want %d", x.what, got, want)
			}
		}
	}
}

// Lists that begin in one place, and are not as long, are counted apart.
func TestTallyBeginnings(t *testing.T) {
	l := api.Level{Kind: api.LevelMax, Args: make([]api.Level, 400000)}
	three := make([]api.Level, 3)
	for i := range l.Args {
		l.Args[i].Args = three[:2+i%2]
	}
	if got := new(tally).of(&l); got != 1400001 {
		t.Errorf("%d parts", got)
	}
}

// A list that is put in the place of its own parameter is not below itself: there nothing is put in.
func TestTallyOfItself(t *testing.T) {
	l := api.Level{Kind: api.LevelParam}
	for range 300000 {
		l = api.Level{Kind: api.LevelSucc, Args: []api.Level{l}}
	}
	counts := tally{by: []api.Level{l}}
	if got := counts.of(&l); got != 600001 {
		t.Errorf("%d parts", got)
	}
	if got := counts.of(&api.Level{Kind: api.LevelParam}); got != 300001 {
		t.Errorf("%d parts of what is put in", got)
	}
}

// A tally that has seen loops and great levels still counts others right, those in their memory too.
func TestTallyAgain(t *testing.T) {
	u := api.Level{Kind: api.LevelParam}
	inner := double(12, u)
	endless := api.Level{Kind: api.LevelMax, Args: []api.Level{inner, u, inner}}
	endless.Args[1] = endless
	by := []api.Level{maxOf(u, u)}
	counts := tally{by: by}
	for _, x := range []struct {
		l    api.Level
		want int
	}{
		{double(30, inner), 1<<26 + 1}, {inner, 1<<12*3 + 1<<12 - 1}, {endless, 1<<26 + 1}, {inner, 1<<12*3 + 1<<12 - 1}, {maxOf(inner, u), 1<<12*4 + 3}, {loop(3), 1<<26 + 1},
		{u, 3}, {maxOf(endless, inner), 1<<26 + 1}, {double(3, inner), 1<<3*(1<<12*4-1) + 1<<3 - 1},
	} {
		if got := counts.of(&x.l); got != x.want {
			t.Errorf("%d parts; want %d", got, x.want)
		}
	}
}
