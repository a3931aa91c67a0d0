package meter

import (
	"math/bits"

	"touchstone/api"
)

const (
	// mostUnnoted is how many terms and Levels are gone through without a note of where they lie: notes cost time
	// and room, and a term of MaxCells parts, with as many Levels as may be, has fewer.
	mostUnnoted = 1 << 20
	// mostArgs is how many terms are counted one by one, once notes pay.
	mostArgs = 3
)

// gauge holds a term against how many parts it may have. It counts them itself, since term.Size
// goes no further than 2^20 parts, and says nothing of Levels.
type gauge struct {
	left   int    // parts that there is still room for
	met    int    // terms and Levels that were gone through, as long as notes do not pay
	open   []span // each below the one ahead of it: a list, since terms may be deeper than a stack of calls
	sizes  notes  // parts of lists, all below too; 0, as long as these are being counted
	fitted runs
}

// span is a list of terms that are being counted.
type span struct {
	terms []api.Term
	half  int // where the second half begins; 0, if the terms are counted one by one
	next  int // which of the terms comes next
	left  int // parts that there was room for ahead of them
}

// holds tells whether there is room for t.
func (g *gauge) holds(t *api.Term) bool {
	ok := g.takes(t)
	for ok && len(g.open) > 0 {
		ok = g.step()
	}
	return ok
}

// step takes one part more, or ends a list. It tells whether there is still room.
func (g *gauge) step() bool {
	s := &g.open[len(g.open)-1]
	at := s.next
	switch {
	case at == len(s.terms):
		g.leave()
		return true
	case s.half == 0:
		s.next++
		return g.takes(&s.terms[at])
	case at == 0:
		s.next = s.half
		return g.enters(s.terms[:s.half])
	default:
		s.next = len(s.terms)
		return g.enters(s.terms[s.half:])
	}
}

// takes tells whether there is room for t itself. What stands below it comes next.
func (g *gauge) takes(t *api.Term) bool {
	return g.takesParts(1) && g.takesLevels(t.Levels) && g.enters(t.Args)
}

// takesParts tells whether there is room for so many parts more.
func (g *gauge) takesParts(count int) bool {
	if count > g.left {
		return false
	}
	g.left -= count
	return true
}

// takesLevels tells whether each of levels is within its bounds.
func (g *gauge) takesLevels(levels []api.Level) bool {
	g.meet(len(levels))
	if g.paysToNote() {
		return g.fitted.hold(levels)
	}
	return areWithin(levels)
}

// enters begins to count terms, unless it is known how many parts they have.
func (g *gauge) enters(terms []api.Term) bool {
	if len(terms) == 0 {
		return true
	}
	if size, known := g.sizes[spotOf(terms)]; known {
		// What stands below itself has no end.
		return size > 0 && g.takesParts(size)
	}
	s := span{terms: terms, left: g.left}
	if g.paysToNote() {
		g.sizes.put(terms, 0)
		s.half = halfOf(len(terms))
	}
	g.open = append(g.open, s)
	g.meet(len(terms))
	return true
}

// halfOf is where the second half of so many terms begins, or 0. It is a power of two, so that lists which lie
// in one another's memory have many halves in common: little of it may hold more terms than can be gone through.
func halfOf(count int) int {
	if count <= mostArgs {
		return 0
	}
	return 1 << (bits.Len(uint(count-1)) - 1)
}

// leave ends the list that was entered last.
func (g *gauge) leave() {
	last := len(g.open) - 1
	s := g.open[last]
	g.open = g.open[:last]
	if g.paysToNote() {
		g.sizes.put(s.terms, s.left-g.left)
	}
}

// meet counts terms, or Levels, that are gone through.
func (g *gauge) meet(count int) {
	if !g.paysToNote() {
		g.met += count
	}
}

func (g *gauge) paysToNote() bool {
	return g.met > mostUnnoted
}
