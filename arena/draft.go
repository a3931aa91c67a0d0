package arena

import (
	"strings"

	"touchstone/api"
)

const mostArgs = 3 // of a term that is whole

// node is a term that knows its Levels and Args by their numbers.
type node struct {
	kind, n int
	name    string
	levels  int
	count   int // of args; behind them stands 0
	args    [mostArgs]int
}

// draft is what an arena would keep more, if a term were added.
type draft struct {
	singles addition[single]
	pairs   addition[pair]
	terms   addition[node]
	open    []span       // each within, or below, the one ahead of it: a list, since Levels may be deeper than a stack of calls
	known   map[spot]int // numbers of lists by where they lie: little memory may hold more Levels than can be gone through
	met     int          // lists of Levels, and halves of such, that were gone through
	spoilt  bool         // there are some without end
}

func newDraft(a *Arena) *draft {
	d := &draft{}
	d.singles = addition[single]{old: &a.singles, weigh: d.weighSingle}
	d.pairs = addition[pair]{old: &a.pairs, weigh: d.weighPair}
	d.terms = addition[node]{old: &a.terms, weigh: d.weighNode}
	return d
}

func (d *draft) weighSingle(s single) int {
	return 1 + d.weighList(s.below)
}

func (d *draft) weighPair(p pair) int {
	return d.weighList(p.first) + d.weighList(p.rest)
}

func (d *draft) weighNode(n node) int {
	weight := d.weighList(n.levels)
	for _, id := range n.args[:n.count] {
		weight += d.terms.weight(id)
	}
	return weight
}

func (d *draft) weighList(number int) int {
	switch {
	case number < 0:
		return d.singles.weight(ofSingle(number))
	case number > 0:
		return d.pairs.weight(ofPair(number))
	}
	return 0
}

// add is t's number. Not ok: t may not be kept.
func (d *draft) add(t *api.Term) (id int, ok bool) {
	if !mayBeKept(t) {
		return 0, false
	}
	id = d.term(t)
	return id, !d.spoilt
}

// term is t's number. What may be kept is not deeper than a stack of calls.
func (d *draft) term(t *api.Term) int {
	n := node{kind: t.Kind, n: t.N, name: t.Name, levels: d.list(t.Levels), count: len(t.Args)}
	for i := range t.Args {
		n.args[i] = d.term(&t.Args[i])
	}
	return d.terms.number(n)
}

// keep brings all of the draft to its arena. Names are copied: what they were cut out of may be far greater.
func (d *draft) keep() {
	for i := range d.terms.fresh.keys {
		n := &d.terms.fresh.keys[i]
		n.name = strings.Clone(n.name)
	}
	d.singles.keep()
	d.pairs.keep()
	d.terms.keep()
}
