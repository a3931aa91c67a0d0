package arena

import (
	"strings"

	"touchstone/api"
)

const (
	mostArgs    = 3       // of a term that is whole
	mostMet     = 1 << 26 // Levels that are gone through: more have more bytes than what is handed in
	mostUnnoted = 1 << 18 // Levels that are gone through without a note of where they lie: notes cost time and room
)

// node is a term that knows its Levels and Args by their numbers.
type node struct {
	kind, n int
	name    string
	levels  int
	count   int // of args; behind them stands 0
	args    [mostArgs]int
}

// row is a list of Levels that is not empty: the first one, and the numbers of two lists.
// The empty list has the number 0, and each other one a number that is one more than its row's.
type row struct {
	kind, n int
	below   int // the first one's Args
	rest    int // what stands behind it
}

// draft is what an arena would keep more, if a term were added.
type draft struct {
	lists  addition[row]
	terms  addition[node]
	open   []span       // each below the one ahead of it: a list, since Levels may be deeper than a stack of calls
	known  map[spot]int // numbers of lists by where they lie: little memory may hold more Levels than can be gone through
	met    int          // Levels that were gone through
	spoilt bool         // there are too many, or some without end
}

// span is a list of Levels that is being numbered, its last one first.
type span struct {
	levels []api.Level
	left   int // how many of them are still to be numbered
	number int // of the list of the others
}

// spot is where a list of Levels, which is not empty, lies.
type spot struct {
	first  *api.Level
	length int
}

// unnumbered is what is known of a list as long as it is being numbered.
const unnumbered = -1

func newDraft(a *Arena) *draft {
	d := &draft{}
	d.lists = addition[row]{old: &a.lists, weigh: d.weighRow}
	d.terms = addition[node]{old: &a.terms, weigh: d.weighNode}
	return d
}

func (d *draft) weighRow(r row) int {
	return 1 + d.weighList(r.below) + d.weighList(r.rest)
}

func (d *draft) weighList(number int) int {
	if number == 0 {
		return 0
	}
	return d.lists.weight(number - 1)
}

func (d *draft) weighNode(n node) int {
	weight := d.weighList(n.levels)
	for _, id := range n.args[:n.count] {
		weight += d.terms.weight(id)
	}
	return weight
}

// add is t's number. Not ok: t may not be kept.
func (d *draft) add(t *api.Term) (id int, ok bool) {
	if !mayBeKept(t) {
		return 0, false
	}
	id = d.term(t)
	return id, !d.spoilt
}

// term is t's number. What may be kept is not deeper than a stack of calls.
func (d *draft) term(t *api.Term) int {
	n := node{kind: t.Kind, n: t.N, name: t.Name, levels: d.list(t.Levels), count: len(t.Args)}
	for i := range t.Args {
		n.args[i] = d.term(&t.Args[i])
	}
	return d.terms.number(n)
}

// list is the number of a list of Levels.
func (d *draft) list(levels []api.Level) int {
	number, known := d.enter(levels)
	for !d.spoilt {
		switch last := len(d.open) - 1; {
		case !known:
			top := &d.open[last]
			number, known = d.enter(top.levels[top.left-1].Args)
		case last < 0:
			return number
		default:
			number, known = d.step(number)
		}
	}
	return 0
}

// enter begins to number levels, unless their number is known.
func (d *draft) enter(levels []api.Level) (number int, known bool) {
	if len(levels) == 0 {
		return 0, true
	}
	s := span{levels: levels, left: len(levels)}
	number, known = d.known[s.spot()]
	if known {
		// What stands below itself has no end.
		d.spoilt = d.spoilt || number == unnumbered
		return number, true
	}
	d.met += len(levels)
	d.spoilt = d.spoilt || d.met > mostMet
	d.note(s.spot(), unnumbered)
	d.open = append(d.open, s)
	return 0, false
}

// step numbers one level more of the list that was entered last, below which stands the list with that number.
// It tells the number of the list, if that was all of it.
func (d *draft) step(below int) (number int, known bool) {
	last := len(d.open) - 1
	s := &d.open[last]
	s.left--
	l := &s.levels[s.left]
	s.number = 1 + d.lists.number(row{l.Kind, l.N, below, s.number})
	if s.left > 0 {
		return 0, false
	}
	number = s.number
	d.note(s.spot(), number)
	d.open = d.open[:last]
	return number, true
}

// note keeps the number of the list at s, once so much was gone through that it pays.
func (d *draft) note(s spot, number int) {
	if d.met <= mostUnnoted {
		return
	}
	if d.known == nil {
		d.known = map[spot]int{}
	}
	d.known[s] = number
}

func (s *span) spot() spot {
	return spot{&s.levels[0], len(s.levels)}
}

// keep brings all of the draft to its arena. Names are copied: what they were cut out of may be far greater.
func (d *draft) keep() {
	for i := range d.terms.fresh.keys {
		n := &d.terms.fresh.keys[i]
		n.name = strings.Clone(n.name)
	}
	d.lists.keep()
	d.terms.keep()
}
