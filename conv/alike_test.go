package conv_test

import (
	"testing"

	"touchstone/api"
	"touchstone/conv"
	"touchstone/term"
)

// kinds: a term of each kind, and ones with such in each place.
var kinds = []string{
	`#0`, `#7`, `*0`, `*p1`, `a`, `c{p0}`, `c{p0,Sp1}`, `(f a)`, `\a. #0`, `!a. #0`, `=a:b. #0`,
	`(*p0 *p1)`, `\*p0. *p1`, `!*p0. *p1`, `=*p0:*p1. *p2`, `((f a) (f b))`, `\(f a). !b. =a:b. (#0 #2)`, `(c{p0} \*Mp0p1. (#0 #1))`,
}

// P14.1: terms of each kind are alike to themselves, in other memory too, and to none of another kind, number, Name or part.
func TestAlike(t *testing.T) {
	for i, a := range kinds {
		for j, b := range kinds {
			if got := conv.Alike(of(a), of(b)); got != (i == j) {
				t.Errorf("Alike of %s, %s: %v", a, b, got)
			}
		}
	}
}

// P14.1: Levels count as alike where they are the Same, place by place, as many.
func TestAlikeLevels(t *testing.T) {
	for _, x := range []struct {
		a, b string
		want bool
	}{
		{`*Mp0p1`, `*Mp1p0`, true}, {`*Ip00`, `*0`, true}, {`*Mp0p0`, `*p0`, true}, {`*Ip0Sp1`, `*Mp0Sp1`, true}, {`*Ip0p1`, `*Mp0p1`, false},
		{`*SMp0p1`, `*MSp0Sp1`, true}, {`*p0`, `*p1`, false}, {`*0`, `*S0`, false}, {`*M0p0`, `*p0`, true}, {`*MS0p0`, `*p0`, false},
		{`c{Mp0p1}`, `c{Mp1p0}`, true}, {`c{p0}`, `c{p1}`, false}, {`c{p0}`, `d{p0}`, false}, {`c{p0}`, `c`, false}, {`c`, `c{p0}`, false}, {`c{p0}`, `c{p0,p0}`, false},
		{`c{p0,p1}`, `c{p1,p0}`, false}, {`c{p0,p1}`, `c{Mp0p0,Mp1p1}`, true}, {`c{p0,p1}`, `c{Mp0p0,p0}`, false}, {`c{p0,p1}`, `c{p1,Mp1p1}`, false},
		{`(c{Mp0p1} *Ip00)`, `(c{Mp1p0} *0)`, true}, {`(c{Mp0p1} *Ip00)`, `(c{Mp1p0} *p0)`, false}, {`(c{Mp0p1} a)`, `(c{p1} a)`, false},
		{`\*Mp0p1. #0`, `\*Mp1p0. #0`, true}, {`\*Mp0p1. #0`, `\*p0. #0`, false}, {`!a. *Mp0p1`, `!a. *Mp1p0`, true}, {`!a. *Mp0p1`, `!a. *Mp2p0`, false},
		{`=*Mp0p1:c{M00}. *Ip10`, `=*Mp1p0:c{0}. *0`, true}, {`=*Mp0p1:c{M00}. *Ip10`, `=*Mp1p0:c{S0}. *0`, false}, {`=a:b. *p0`, `=a:b. *p1`, false},
		{`c{p0,p1,p2,Mp0Mp1Mp2p3}`, `c{p0,p1,p2,MMMp3p2p1p0}`, true}, {`c{p0,p1,p2,Mp0Mp1Mp2p3}`, `c{p0,p1,p2,MMp3p2p1}`, false},
	} {
		if got := conv.Alike(of(x.a), of(x.b)); got != x.want {
			t.Errorf("Alike of %s, %s: %v", x.a, x.b, got)
		}
		if got := conv.Alike(of(x.b), of(x.a)); got != x.want {
			t.Errorf("Alike of %s, %s: %v", x.b, x.a, got)
		}
	}
}

// P14.1: it says nothing of what terms mean.
func TestAlikeTakesNoStep(t *testing.T) {
	for _, x := range [][2]string{{`(\a. #0 b)`, `b`}, {`=a:b. #0`, `b`}, {`\a. (f #0)`, `f`}, {`two`, `(suc (suc zero))`}, {`\a. #0`, `\b. #0`}} {
		if conv.Alike(of(x[0]), of(x[1])) {
			t.Errorf("%s is Alike to %s", x[0], x[1])
		}
	}
}

// turns: of one part, ways to make another one of it; same: they stay alike.
var turns = []struct {
	what string
	same bool
	of   func(t api.Term) api.Term
}{
	{"another number", false, func(t api.Term) api.Term { t.N++; return t }},
	{"another Name", false, func(t api.Term) api.Term { t.Name += "x"; return t }},
	{"another Kind", false, func(t api.Term) api.Term { t.Kind++; return t }},
	{"a Level more", false, func(t api.Term) api.Term {
		t.Levels = append(t.Levels[:len(t.Levels):len(t.Levels)], api.Level{})
		return t
	}},
	{"a part more", false, func(t api.Term) api.Term { t.Args = append(t.Args[:len(t.Args):len(t.Args)], v(0)); return t }},
	{"greater Levels", false, func(t api.Term) api.Term { t.Levels = turned(t.Levels, succ); return t }},
	{"other Levels that are the Same", true, func(t api.Term) api.Term {
		t.Levels = turned(t.Levels, func(l api.Level) api.Level { return maxOf(api.Level{}, l) })
		return t
	}},
}

func turned(list []api.Level, by func(api.Level) api.Level) (out []api.Level) {
	for _, l := range list {
		out = append(out, by(l))
	}
	return out
}

// turn: t with its part at a place turned: itself first, Args in order.
func turn(t api.Term, place *int, by func(api.Term) api.Term) api.Term {
	*place--
	if *place == -1 {
		return by(t)
	}
	var args []api.Term
	for _, a := range t.Args {
		args = append(args, turn(a, place, by))
	}
	t.Args = args
	return t
}

// P14.1: in each part, at each place, each field but Levels that are the Same tells terms apart.
func TestAlikeEachPart(t *testing.T) {
	for _, s := range kinds {
		a := of(s)
		for place := range term.Size(a, 100) {
			for _, x := range turns {
				at := place
				b := turn(a, &at, x.of)
				want := x.same || term.Equal(a, b)
				if got := conv.Alike(a, b); got != want {
					t.Errorf("Alike of %s and the one with %s at %d: %v", s, x.what, place, got)
				}
				if got := conv.Alike(b, a); got != want {
					t.Errorf("Alike of the one with %s at %d, and %s: %v", x.what, place, s, got)
				}
			}
		}
	}
}

// P14.1: a part far below.
func TestAlikeFarBelow(t *testing.T) {
	for _, deep := range []int{1, 5000, 1<<18 - 1} {
		for what, around := range map[string]func(t api.Term) api.Term{
			"Lams": func(t api.Term) api.Term { return lam(con("a"), t) }, "Pis": func(t api.Term) api.Term { return pi(t, con("a")) },
			"Apps": func(t api.Term) api.Term { return app(t, con("a")) }, "arguments": func(t api.Term) api.Term { return app(con("f"), t) },
		} {
			below := func(t api.Term) api.Term {
				for range deep {
					t = around(t)
				}
				return t
			}
			a := below(sortOf(maxOf(param(0), param(1))))
			for _, x := range []struct {
				end  api.Term
				want bool
			}{{sortOf(maxOf(param(0), param(1))), true}, {sortOf(maxOf(param(1), param(0))), true}, {sortOf(param(1)), false}, {con("a"), false}, {v(0), false}} {
				if got := conv.Alike(a, below(x.end)); got != x.want {
					t.Errorf("Alike of %d %s around a Sort, and around %s: %v", deep, what, show(x.end), got)
				}
			}
		}
	}
}
