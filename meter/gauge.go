package meter

import "touchstone/api"

const (
	// mostMet is how many terms and Levels are gone through: more have more bytes than what is handed in.
	mostMet = 1 << 26
	// mostUnnoted is how many of these are gone through without a note of where they lie: notes cost time and room,
	// and a term of MaxCells parts, with as many Levels as may be, has fewer.
	mostUnnoted = 1 << 20
)

// gauge holds a term against how many parts it may have. It counts them itself, since term.Size
// goes no further than 2^20 parts, and says nothing of Levels.
type gauge struct {
	left   int              // parts that there is still room for
	met    int              // terms and Levels that were gone through
	open   []span           // each below the one ahead of it: a list, since terms may be deeper than a stack of calls
	sizes  notes[api.Term]  // parts of lists, all below too; 0, as long as these are being counted
	fitted notes[api.Level] // lists all of whose Levels are within bounds
}

// span is a list of terms that are being counted.
type span struct {
	terms []api.Term
	next  int // which of the terms comes next
	left  int // parts that there was room for ahead of them
}

// holds tells whether there is room for t.
func (g *gauge) holds(t *api.Term) bool {
	ok := g.takes(t)
	for ok && len(g.open) > 0 {
		ok = g.step()
	}
	return ok
}

// step takes one part more, or ends a list. It tells whether there is still room.
func (g *gauge) step() bool {
	s := &g.open[len(g.open)-1]
	if s.next == len(s.terms) {
		g.leave()
		return true
	}
	s.next++
	return g.takes(&s.terms[s.next-1])
}

// takes tells whether there is room for t itself. What stands below it comes next.
func (g *gauge) takes(t *api.Term) bool {
	return g.takesParts(1) && g.takesLevels(t.Levels) && g.enters(t.Args)
}

// takesParts tells whether there is room for so many parts more.
func (g *gauge) takesParts(count int) bool {
	if count > g.left {
		return false
	}
	g.left -= count
	return true
}

// takesLevels tells whether each of levels is within its bounds.
func (g *gauge) takesLevels(levels []api.Level) bool {
	if len(levels) == 0 {
		return true
	}
	if _, known := g.fitted[spotOf(levels)]; known {
		return true
	}
	if !g.meets(len(levels)) || !areWithin(levels) {
		return false
	}
	if g.paysToNote() {
		g.fitted.put(levels, len(levels))
	}
	return true
}

// enters begins to count terms, unless it is known how many parts they have.
func (g *gauge) enters(terms []api.Term) bool {
	if len(terms) == 0 {
		return true
	}
	if size, known := g.sizes[spotOf(terms)]; known {
		// What stands below itself has no end.
		return size > 0 && g.takesParts(size)
	}
	if g.paysToNote() {
		g.sizes.put(terms, 0)
	}
	g.open = append(g.open, span{terms: terms, left: g.left})
	return g.meets(len(terms))
}

// leave ends the list that was entered last.
func (g *gauge) leave() {
	last := len(g.open) - 1
	s := g.open[last]
	g.open = g.open[:last]
	if g.paysToNote() {
		g.sizes.put(s.terms, s.left-g.left)
	}
}

// meets tells whether so many terms, or Levels, more can be gone through.
func (g *gauge) meets(count int) bool {
	g.met += count
	return g.met <= mostMet
}

func (g *gauge) paysToNote() bool {
	return g.met > mostUnnoted
}
