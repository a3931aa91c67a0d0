package codec_test

import (
	"bytes"
	"fmt"
	"math"
	"slices"
	"strings"
	"testing"

	"touchstone/api"
	"touchstone/codec"
)

// ring: a term that is below itself, in each of so many Args.
func ring(kind, args int) api.Term {
	list := make([]api.Term, args)
	t := api.Term{Kind: kind, Args: list}
	for i := range list {
		list[i] = t
	}
	return t
}

// longRing: a term that is below itself, with so many others between, and an end beside each.
func longRing(kind, side, length int) api.Term {
	last := make([]api.Term, 2)
	t := of(kind, last...)
	for range length {
		args := make([]api.Term, 2)
		args[side] = t
		t = of(kind, args...)
	}
	last[side] = t
	return t
}

// ringLevel: a level that is below itself.
func ringLevel(kind, args int) api.Level {
	list := make([]api.Level, args)
	l := api.Level{Kind: kind, Args: list}
	for i := range list {
		list[i] = l
	}
	return l
}

func doubledLevel(n int, l api.Level) api.Level {
	for range n {
		l = maxi(l, l)
	}
	return l
}

// oddLevels: levels that have no bytes: not formed as their Kind asks, or without end, or with more parts than memory.
func oddLevels() map[string]api.Level {
	return map[string]api.Level{
		"Kind -1": {Kind: -1}, "Kind 5": {Kind: 5}, "the least Kind": {Kind: math.MinInt}, "the greatest Kind": {Kind: math.MaxInt},
		"a Zero with N": {N: 1}, "a Zero with Args": level(api.LevelZero, zero), "a Succ without Args": level(api.LevelSucc), "a Succ of two": level(api.LevelSucc, zero, zero), "a Succ with N": {Kind: api.LevelSucc, N: 1, Args: []api.Level{zero}},
		"a Max of one": level(api.LevelMax, zero), "an Imax of three": level(api.LevelImax, zero, zero, zero), "a Max of many": {Kind: api.LevelMax, Args: make([]api.Level, 100000)},
		"a Param below 0": param(-1), "the least Param": param(math.MinInt), "a Param with Args": {Kind: api.LevelParam, Args: []api.Level{zero}},
		"something odd below": succ(maxi(zero, succ(level(api.LevelMax)))), "something odd ahead": maxi(param(-5), zero),
		"a ring by one": ringLevel(api.LevelSucc, 1), "a ring by two": ringLevel(api.LevelMax, 2), "a ring of no kind": ringLevel(9, 1), "a ring by many": ringLevel(api.LevelImax, 60000),
		"a ring below": maxi(zero, ringLevel(api.LevelImax, 2)), "doubled": doubledLevel(80, u),
	}
}

// oddTerms: likewise.
func oddTerms() map[string]api.Term {
	all := map[string]api.Term{
		"Kind -1": {Kind: -1}, "Kind 7": {Kind: 7}, "the least Kind": {Kind: math.MinInt}, "the greatest Kind": {Kind: math.MaxInt}, "Kind 7 with Args": of(7, c, c),
		"Var -1": v(-1), "the least Var": v(math.MinInt), "a Var with Args": of(api.TermVar, c), "a Var with a Name": {Name: "x"}, "a Var with Levels": {Levels: []api.Level{zero}},
		"a Sort without Levels": {Kind: api.TermSort}, "a Sort with two": {Kind: api.TermSort, Levels: []api.Level{zero, zero}}, "a Sort with N": {Kind: api.TermSort, N: 1, Levels: []api.Level{zero}}, "a Sort with a Name": {Kind: api.TermSort, Name: "x", Levels: []api.Level{zero}}, "a Sort with Args": {Kind: api.TermSort, Levels: []api.Level{zero}, Args: []api.Term{c}},
		"a Const with N": {Kind: api.TermConst, Name: "c", N: 1}, "a Const with Args": {Kind: api.TermConst, Name: "c", Args: []api.Term{c}},
		"something odd below": app(c, of(api.TermLet, c, app(v(0), v(-1)), c)), "something odd at the end": app(bushy(api.TermApp, 200001, c), of(api.TermPi, c)),
		"a long ring by its first": longRing(api.TermApp, 0, 1000), "a long ring by its second": longRing(api.TermPi, 1, 400000), "a ring below": app(c, of(api.TermLet, prop, ring(api.TermLam, 2), c)), "a ring far behind": app(bushy(api.TermApp, 300001, c), longRing(api.TermLam, 1, 5)),
		"2^31 parts": doubled(api.TermApp, 30, v(0)), "a long Name, doubled": doubled(api.TermPi, 12, con(strings.Repeat("long", 1<<18))), "many Levels, doubled": doubled(api.TermPi, 22, con("c", make([]api.Level, 1<<16)...)),
	}
	for kind := range 9 {
		for _, args := range []int{0, 1, 2, 3, 4, 60000} {
			if kind > api.TermConst && args == []int{0, 0, 0, 2, 2, 2, 3, 0, 0}[kind] {
				all[fmt.Sprint("a ring of kind ", kind)] = ring(kind, args)
				all[fmt.Sprint("doubled of kind ", kind)] = doubled(kind, 80, c)
			} else if args > 0 || kind > api.TermConst {
				all[fmt.Sprint("kind ", kind, " with ", args, " Args")] = of(kind, make([]api.Term, args)...)
				all[fmt.Sprint("a ring of kind ", kind, " by ", args)] = ring(kind, args)
			}
		}
	}
	for kind := api.TermApp; kind <= api.TermLet; kind++ {
		args := make([]api.Term, []int{2, 2, 2, 3}[kind-api.TermApp])
		all[fmt.Sprint("kind ", kind, " with N")] = api.Term{Kind: kind, N: 1, Args: args}
		all[fmt.Sprint("kind ", kind, " with a Name")] = api.Term{Kind: kind, Name: "x", Args: args}
		all[fmt.Sprint("kind ", kind, " with Levels")] = api.Term{Kind: kind, Levels: []api.Level{zero}, Args: args}
	}
	for what, l := range oddLevels() {
		all["a Sort, "+what] = sort(l)
		all["a Const, "+what] = con("c", zero, l, u)
		all["many Consts, "+what] = bushy(api.TermApp, 2001, con("c", slices.Repeat([]api.Level{l}, 1000)...))
	}
	return all
}

// R1: every call ends, and none panics, whatever it is handed; what has no bytes is told no bytes, not even b's.
func TestOddLevels(t *testing.T) {
	for what, l := range oddLevels() {
		for _, b := range [][]byte{nil, []byte("abc"), make([]byte, 3, 100)} {
			if got := codec.Level(b, l); len(got) != 0 {
				t.Errorf("%s: %s", what, show(got))
			}
		}
	}
}

func TestOddTerms(t *testing.T) {
	for what, x := range oddTerms() {
		for _, b := range [][]byte{nil, make([]byte, 3, 100)} {
			if got := codec.Term(b, x); len(got) != 0 {
				t.Errorf("%s: %s", what, show(got))
			}
		}
	}
}

// R1: a term that would have 2^31 - 1 bytes, behind one that is there already.
func TestOneByteTooMany(t *testing.T) {
	if got := codec.Term([]byte{9}, doubled(api.TermApp, 29, v(128))); len(got) != 0 {
		t.Errorf("%d bytes", len(got))
	}
}

func TestOddDecls(t *testing.T) {
	for _, n := range []int{-1, math.MinInt} {
		for _, d := range []api.Decl{{Kind: n}, {Kind: 1, Params: n}, {Kind: 1, Count: n}} {
			if got := codec.Decl(nil, d); len(got) != 0 {
				t.Errorf("%v: %s", d, show(got))
			}
		}
	}
	for what, x := range oddTerms() {
		for _, d := range []api.Decl{{Kind: 1, Type: x}, {Kind: api.DeclDef, Value: x}, {Kind: 3, Ctors: []api.Ctor{{}, {Name: "k", Type: x}, {}}}, {Kind: 3, Ctors: slices.Repeat([]api.Ctor{{Type: x}}, 1000)}} {
			if got := codec.Decl([]byte("abc"), d); len(got) != 0 {
				t.Errorf("%s: %s", what, show(got))
			}
		}
	}
	many := api.Decl{Kind: 3, Ctors: slices.Repeat([]api.Ctor{{Name: "k", Type: c}}, 70000)}
	if got := codec.Decl(nil, many); !bytes.HasPrefix(got, []byte{3, 0, 0, 0, 0, 0, 0, 0, 240, 162, 4, 1, 'k', 2, 1, 'c', 0, 1}) || len(got) != 11+6*70000 {
		t.Errorf("many Ctors: %s", show(got))
	}
	if got := codec.Decl(nil, api.Decl{Kind: math.MaxInt, Params: math.MaxInt, Count: math.MaxInt}); len(got) != 9*3+6 {
		t.Errorf("the greatest numbers: %s", show(got))
	}
}

// R1: what is read ends, whatever the bytes are.
func TestWhateverBytes(t *testing.T) {
	for i := range 256 {
		for _, ahead := range [][]byte{nil, {1}, {2, 1}, {1, 0, 0, 0, 0}, {2, 0, 0, 0, 0, 0, 0, 1}} {
			checkWhatever(t, slices.Concat(ahead, bytes.Repeat([]byte{byte(i)}, 10000)))
		}
	}
	checkWhatever(t, make([]byte, 1<<20))
}
