package graph

import "touchstone/api"

// spot is a part, and how many binders lie around it.
type spot struct {
	of      *Node
	binders int
}

// turner says what becomes of a part below so many binders; where that is nil, the part stays, and those below it
// are turned.
type turner interface {
	part(n *Node, binders int) *Node
}

// turning makes a term of another one by what a turner says. What is still to be turned stands in a list, since terms
// may be deeper than a stack of calls.
type turning struct {
	made map[spot]*Node // what became of great parts
	open []turned       // each below the one ahead of it
	took int            // nodes that were made
}

// turned is a part of which something is made: node, as far as it is made.
type turned struct {
	spot
	node  *Node
	parts []*Node
}

// of is what by makes of t below so many binders.
func (x *turning) of(t *Node, binders int, by turner) *Node {
	out := x.enter(t, binders, by)
	for len(x.open) > 0 {
		at := &x.open[len(x.open)-1]
		if out != nil {
			at.node.args = append(at.node.args, out)
		}
		if next := len(at.node.args); next < len(at.parts) {
			out = x.enter(at.parts[next], at.binders+at.node.binds(next), by)
		} else {
			out = x.leave()
		}
	}
	return out
}

// enter is what becomes of n; nil, if that is begun.
func (x *turning) enter(n *Node, binders int, by turner) *Node {
	if out := by.part(n, binders); out != nil {
		return out
	}
	s := spot{n, binders}
	if n.isGreat() && x.made[s] != nil {
		return x.made[s]
	}
	x.took++
	parts := n.glance()
	x.open = append(x.open, turned{s, n.bare(len(parts)), parts})
	return nil
}

// leave ends the part that was entered last.
func (x *turning) leave() *Node {
	last := len(x.open) - 1
	at := x.open[last]
	x.open[last] = turned{} // what was made is not kept
	x.open = x.open[:last]
	at.node.settle()
	if at.of.isGreat() {
		if x.made == nil {
			x.made = map[spot]*Node{}
		}
		x.made[at.spot] = at.node
	}
	return at.node
}

// bare is n with room for so many args.
func (n *Node) bare(args int) *Node {
	out := &Node{kind: n.kind, number: n.number, label: n.label}
	if args > 0 {
		out.args = make([]*Node, 0, args)
	}
	return out
}

// put has values for the least free variables, the last one for 0, and makes greater ones less by as many.
type put struct {
	values []*Node
	lifts  *lifts
	turning
}

func (h *lifts) put(values ...*Node) *put {
	return &put{values: values, lifts: h}
}

// below is t with the values put in, where so many binders lie around it that are not put in.
func (p *put) below(t *Node, binders int) *Node {
	took := p.took
	out := p.of(t, binders, p)
	p.lifts.count += p.took - took
	return out
}

func (p *put) part(n *Node, binders int) *Node {
	count := len(p.values)
	if n.free <= binders {
		return n
	}
	if n.hasNone(binders, count) {
		return p.lifts.lifted(n, -count, binders+count)
	}
	if !n.Is(api.TermVar) {
		return nil
	}
	return p.lifts.lifted(p.values[count-1-(n.number-binders)], binders, 0)
}

// hasNone tells whether none of so many variables from one on is free in n, as far as it knows.
func (n *Node) hasNone(from, count int) bool {
	if n.low >= from+count {
		return true
	}
	l := n.late
	return l != nil && l.rises.first(from, l.under) == l.rises.first(from+count, l.under)
}

// relevel puts Levels in the place of the parameters of others.
type relevel struct {
	by *[]api.Level
	fitting
	turning
}

func relevelBy(by []api.Level) *relevel {
	return &relevel{by: &by, fitting: fitting{by: by}}
}

// with is t with the Levels put in.
func (r *relevel) with(t *Node) *Node {
	if len(*r.by) == 0 {
		return t
	}
	return r.of(t, 0, r)
}

func (r *relevel) part(n *Node, _ int) *Node {
	if !n.leveled {
		return n
	}
	if n.count() > 0 {
		return nil
	}
	if n.unfit { // and stays so: it may have no end
		return n
	}
	leaf := n.bare(0)
	levels := n.levels()
	levels.by = r.by
	leaf.label = labelOf(n.name(), levels)
	leaf.unfit = !r.fit(levels.list)
	leaf.settle()
	return leaf
}
