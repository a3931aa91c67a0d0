package whnf

import (
	"touchstone/api"
	"touchstone/term"
)

// job is a part that is to be turned, how many binders lie around it, and the place for what becomes of it.
type job struct {
	from    *node
	binders int
	to      **node
}

// turned is t, below so many binders, with each part as part says; where that is nil, the part stays, and those below
// it are turned. They stand in a list, since terms may be deeper than a stack of calls.
func turned(t *node, binders int, part func(n *node, binders int) *node) (out *node) {
	jobs := []job{{t, binders, &out}}
	var made []*node
	for len(jobs) > 0 {
		last := len(jobs) - 1
		j := jobs[last]
		jobs = jobs[:last]
		*j.to = part(j.from, j.binders)
		if *j.to != nil {
			continue
		}
		n := j.from.bare()
		for i, a := range j.from.args {
			jobs = append(jobs, job{a, j.binders + n.binds(i), &n.args[i]})
		}
		*j.to = n
		made = append(made, n)
	}
	settleAll(made)
	return out
}

// bare is n with room for its args.
func (n *node) bare() *node {
	n.show()
	return &node{kind: n.kind, number: n.number, name: n.name, levels: n.levels, args: make([]*node, len(n.args))}
}

// put has values for the least free variables, the last one for 0, and makes greater ones less by as many.
type put struct{ values []*node }

// below is t with the values put in, where so many binders lie around it that are not put in.
func (p put) below(t *node, binders int) *node {
	return turned(t, binders, p.part)
}

func (p put) part(n *node, binders int) *node {
	count := len(p.values)
	if n.free <= binders {
		return n
	}
	// What is lifted over all that is put in does not have it.
	if l := n.late; l != nil && l.from <= binders && binders+count <= l.from+l.by {
		return lifted(l.of, l.by-count, l.from)
	}
	if !n.is(api.TermVar) {
		return nil
	}
	number := n.number - binders
	if number >= count {
		return variable(n.number - count)
	}
	return lifted(p.values[count-1-number], binders, 0)
}

// relevel has levels for the parameters of Levels.
type relevel struct{ by []api.Level }

// of is t with the levels put in.
func (r relevel) of(t *node) *node {
	if len(r.by) == 0 {
		return t
	}
	return turned(t, 0, r.part)
}

func (r relevel) part(n *node, _ int) *node {
	if !n.leveled {
		return n
	}
	if len(n.args) > 0 {
		return nil
	}
	if n.unfit { // and stays so: it may have no end
		return n
	}
	leaf := n.bare()
	leaf.levels = term.Levels(api.Term{Kind: api.TermConst, Levels: n.levels}, r.by).Levels
	// Where none are told, they are too great.
	leaf.unfit = len(leaf.levels) != len(n.levels) || !fit(leaf.levels)
	leaf.settle()
	return leaf
}
