package graph

import "touchstone/leap"

// mostNotes is how many notes of Levels are kept.
const mostNotes = 1 << 20

// Pair is two terms that are held against each other.
type Pair struct{ A, B *Node }

// likeness tells whether terms are alike, where Levels are that are the Same.
type likeness struct {
	open    []opened // each below the one ahead of it: a list, since terms may be deeper than a stack of calls
	classes classes
	most    int               // classes that one question took
	levels  leap.Runs[places] // that are known to be the Same
}

// opened is a pair of which all is alike so far, up to the next one of its Args.
type opened struct {
	Pair
	argsA, argsB []*Node
	next         int
}

// AreAlike tells whether p's terms are alike. Of great parts that are it is noted: so no more pairs of these
// are gone through than there are great parts, however often they are shared.
func (b *Book) AreAlike(p Pair) bool {
	b.lifts.forget()
	return b.likeness.holds(p)
}

func (k *likeness) holds(p Pair) bool {
	k.forget()
	had := len(k.classes.under)
	k.open = k.open[:0]
	ok := k.enters(p)
	for ok && len(k.open) > 0 {
		ok = k.step()
	}
	for i := range k.open {
		k.classes.part(k.open[i].Pair)
		k.open[i] = opened{} // what was held against each other is not kept
	}
	k.most = max(k.most, len(k.classes.under)-had)
	return ok
}

// forget makes room, if there are many notes.
func (k *likeness) forget() {
	if len(k.classes.under) > max(mostClasses, 2*k.most) {
		k.classes.forget()
		k.most = 0
	}
	if k.levels.Len() > mostNotes {
		k.levels = leap.Runs[places]{}
	}
}

// step enters the next pair, or ends the one that was entered last, and tells whether all is alike so far.
func (k *likeness) step() bool {
	last := len(k.open) - 1
	o := &k.open[last]
	if at := o.next; at < len(o.argsA) {
		o.next++
		return k.enters(Pair{o.argsA[at], o.argsB[at]})
	}
	if o.A.size > mostApart {
		k.classes.unite(o.Pair)
	}
	*o = opened{}
	k.open = k.open[:last]
	return true
}

// enters tells whether p's terms are alike, but for what stands below them. That comes next, unless it is known.
func (k *likeness) enters(p Pair) bool {
	p = p.bare()
	switch {
	case !p.A.isKin(p.B):
		return false
	case p.A == p.B:
		return true
	case p.A.label != p.B.label && !k.sameLevels(p.A.levels(), p.B.levels()):
		return false
	case p.A.count() == 0 || k.classes.areOne(p):
		return true
	case k.classes.areTwo(p):
		return false
	}
	k.open = append(k.open, opened{Pair: p, argsA: p.A.glance(), argsB: p.B.glance()})
	return true
}

// bare are p's terms without what is done to the variables of both: so they may be known to be alike from elsewhere.
func (p Pair) bare() Pair {
	a, b := p.A.late, p.B.late
	if a == nil || b == nil {
		return p
	}
	if a.isLike(b) {
		return Pair{a.of, b.of}
	}
	byA, byB := a.shift(), b.shift()
	switch {
	case p.A.size <= mostApart || byA == 0 || byB == 0:
		return p
	case byA > byB:
		return Pair{a.lifts.lifted(a.of, byA-byB, 0), b.of}
	default:
		return Pair{a.of, b.lifts.lifted(b.of, byB-byA, 0)}
	}
}
