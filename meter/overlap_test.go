package meter_test

import (
	"fmt"
	"math"
	"testing"

	"touchstone/api"
)

// places: where a list begins in a memory, and where it ends.
type places struct{ from, to int }

// cuts: ways to cut lists out of one memory of length + count, the i-th for each i below count.
func cuts(length, count int) map[string]func(i int) places {
	return map[string]func(i int) places{
		"beginnings":                  func(i int) places { return places{0, length - i} },
		"beginnings, the least first": func(i int) places { return places{0, length - count + i} },
		"ends":                        func(i int) places { return places{i, length} },
		"ends, the least first":       func(i int) places { return places{count - i, length} },
		"middles":                     func(i int) places { return places{i, length + count - i} },
		"middles, the least first":    func(i int) places { return places{count - i, length + i} },
		"moved ones":                  func(i int) places { return places{i, i + length} },
		"moved ones, the last first":  func(i int) places { return places{count - i, count - i + length} },
	}
}

// applied: a Const, applied to so many Consts, each with the Levels that lie where cut says.
func applied(memory []api.Level, count int, cut func(i int) places) api.Term {
	x := c
	for i := range count {
		p := cut(i)
		x = app(x, con("c", memory[p.from:p.to]...))
	}
	return x
}

// P9.1: a term fits, whatever memory its Levels take: more than 2^26 of them, in lists that lie in one another.
func TestFitsLevelsThatOverlap(t *testing.T) {
	const count, length = 1490, 50000
	memory := make([]api.Level, length+count)
	for what, cut := range cuts(length, count) {
		wantSize(t, what, applied(memory, count, cut), 2*count+1)
	}
	for _, great := range []int{0, count / 2, length / 2, length - count/2, length + count/2, length + count - 1} {
		memory[great] = tall(api.MaxLevel + 1)
		for what, cut := range cuts(length, count) {
			want := api.OK
			for i := range count {
				if p := cut(i); p.from <= great && great < p.to {
					want = api.ErrCells
				}
			}
			wantFits(t, fmt.Sprint(what, ", a great one at ", great), 2*count+1, applied(memory, count, cut), want)
		}
		memory[great] = zero
	}
}

// P9.1: the same of as many lists as there may be, with far more Levels than can be gone through one by one.
func TestFitsVeryManyLevelsThatOverlap(t *testing.T) {
	const count, length = api.MaxCells/2 - 1, 1 << 19
	memory := make([]api.Level, length+count)
	for what, cut := range cuts(length, count) {
		wantFits(t, what, 2*count+1, applied(memory, count, cut), api.OK)
		wantFits(t, what, 2*count, applied(memory, count, cut), api.ErrCells)
	}
}

// ofLists: a term with so many below it, the Args of each where cut says, and how many parts it has.
func ofLists(memory []api.Term, count int, cut func(i int) places) (t api.Term, parts int) {
	t.Kind, parts = api.TermApp, 1+count
	for i := range count {
		p := cut(i)
		t.Args = append(t.Args, of(api.TermLam, memory[p.from:p.to]...))
		parts += p.to - p.from
	}
	return t, parts
}

// P9.1: terms whose Args lie in one another are counted as often as they stand there.
func TestFitsArgsThatOverlap(t *testing.T) {
	for _, size := range []places{{50000, 1490}, {1 << 14, 1 << 14}} {
		length, count := size.from, size.to
		memory := make([]api.Term, length+count)
		for what, cut := range cuts(length, count) {
			x, parts := ofLists(memory, count, cut)
			wantFits(t, what, parts, x, api.OK)
			wantFits(t, what, parts-1, x, api.ErrCells)
		}
	}
}

// P9.1: the same, where what lies in one another's memory is below itself, or has a great Level.
func TestFitsBadArgsThatOverlap(t *testing.T) {
	const length, count = 1 << 14, 1 << 10
	memory := make([]api.Term, length+count)
	for what, bad := range map[string]api.Term{
		"a great Level": sort(tall(api.MaxLevel + 1)), "below itself": of(api.TermApp, memory[length/2-5:length/2+5]...), "below itself alone": of(api.TermApp, memory[length/2:length/2+1]...), "below all": of(api.TermApp, memory...),
	} {
		memory[length/2] = bad
		for name, cut := range cuts(length, count) {
			x, _ := ofLists(memory, count, cut)
			wantFits(t, name+", "+what, math.MaxInt, x, api.ErrCells)
		}
	}
}
