package graph

import (
	"slices"

	"touchstone/api"
)

// lift is a term with other numbers for its free variables. It has all lifts of a term in one, however many:
// else each part that is asked for would go through all of them.
type lift struct {
	of    *Node // no lift itself
	under int   // binders that lie between the term and where its variables are counted
	*raise
}

// raise is what becomes of variables.
type raise struct {
	rises rises
	lifts *lifts
}

// lifts makes lifts, and knows those of great terms: one term may be lifted the same way in many places,
// and what stands in it is to be made once.
type lifts struct {
	raises map[step]*raise
	made   map[liftKey]*Node
	count  int // nodes that were made since it was emptied
}

// step is a raise made of another one, or of none, by one rise more.
type step struct {
	ahead *raise
	last  rise
}

// liftKey is a term and what becomes of its variables.
type liftKey struct {
	of *Node
	by *raise
}

// mostKept is how many nodes are made while those that are known are kept: nobody may ask for them any more.
const mostKept = 1 << 22

// forget empties h now and then. Not in the midst of one step: what it makes shares parts by what is known here.
func (h *lifts) forget() {
	if h.count > mostKept {
		*h = lifts{}
	}
}

// lifted is n with its free variables from the number from on greater by by. Its parts are lifted once they are asked
// for: most never are, and one term may be put in many places.
func (h *lifts) lifted(n *Node, by, from int) *Node {
	if by == 0 || n.free <= from {
		return n
	}
	return h.renumbered(n, rises{{from, by}}, 0)
}

// renumbered is n, below so many binders, with its free variables turned by r.
func (h *lifts) renumbered(n *Node, r rises, binders int) *Node {
	if !r.turns(n, binders) {
		return n
	}
	r = r.below(binders)
	if n.late != nil {
		r = n.late.rises.below(n.late.under).then(r)
		n = n.late.of
	}
	r = r.of(n)
	switch {
	case len(r) == 0:
		return n
	case n.Is(api.TermVar):
		return variable(r.number(n.number, 0))
	case n.size > mostApart:
		return h.one(n, r)
	}
	return h.late(lift{of: n, raise: &raise{r, h}})
}

// one is the great term n with its free variables turned by r: one node as long as that is known, if n is shared.
func (h *lifts) one(n *Node, r rises) *Node {
	n.hold()
	if !n.shared {
		return h.late(lift{of: n, raise: &raise{r, h}})
	}
	key := liftKey{n, h.raise(r)}
	if out, known := h.made[key]; known {
		out.shared = true
		return out
	}
	out := h.late(lift{of: n, raise: key.by})
	h.made[key] = out
	return out
}

// raise is the one with these rises, as long as it is known.
func (h *lifts) raise(r rises) (out *raise) {
	if h.made == nil {
		h.raises, h.made = map[step]*raise{}, map[liftKey]*Node{}
	}
	for i := range r {
		s := step{out, r[i]}
		next, known := h.raises[s]
		if !known {
			next = &raise{slices.Clip(r[:i+1]), h}
			h.raises[s] = next
		}
		out = next
	}
	return out
}

// late is the node of l.
func (h *lifts) late(l lift) *Node {
	h.count++
	of := l.of
	return &Node{
		kind:    of.kind,
		number:  of.number,
		label:   of.label,
		hidden:  of.count() > 0,
		late:    &l,
		size:    of.size,
		free:    l.rises.number(of.free-1, l.under) + 1,
		low:     l.rises.number(of.low, l.under),
		exact:   of.exact,
		leveled: of.leveled,
		unfit:   of.unfit,
	}
}

// args are what stands below what l says. It is lifted once it is asked for, too.
func (l *lift) args() []*Node {
	out := slices.Clone(l.of.Args())
	for i, a := range out {
		out[i] = l.below(a, l.under+l.of.binds(i))
	}
	return out
}

// below is n, which stands below the lift's term and so many binders, as it stands below what l says.
func (l *lift) below(n *Node, binders int) *Node {
	switch {
	case n.late != nil || n.isGreat():
		return l.lifts.renumbered(n, l.rises, binders)
	case !l.rises.turns(n, binders):
		return n
	case n.Is(api.TermVar):
		return variable(l.rises.number(n.number, binders))
	}
	return l.lifts.late(lift{n, binders, l.raise})
}

// isLike tells whether l and o do the same to two terms.
func (l *lift) isLike(o *lift) bool {
	return l.under == o.under && (l.raise == o.raise || slices.Equal(l.rises, o.rises))
}

// shift is by how much l makes all variables greater, or less; 0, if it does not the same to all.
func (l *lift) shift() int {
	if len(l.rises) == 1 && l.rises[0].from+l.under <= l.of.low {
		return l.rises[0].by
	}
	return 0
}

// Base is what n lifts, or n itself.
func (n *Node) Base() *Node {
	if n.late != nil {
		return n.late.of
	}
	return n
}

// LiftedAs is n with its free variables turned as those of like's Base are in like.
func (n *Node) LiftedAs(like *Node) *Node {
	l := like.late
	switch {
	case l == nil:
		return n
	case l.of == n:
		return like
	}
	return l.lifts.renumbered(n, l.rises, l.under)
}

// Lowered is n, which does not use the variable 0, with all others less by one.
func (b *Book) Lowered(n *Node) *Node {
	return b.lifts.lifted(n, -1, 1)
}
