package graph

import "touchstone/api"

// job is a part that is to be turned, how many binders lie around it, and the place for what becomes of it.
type job struct {
	from    *Node
	binders int
	to      **Node
}

// turned is t, below so many binders, with each part as part says; where that is nil, the part stays, and those below
// it are turned. They stand in a list, since terms may be deeper than a stack of calls. More of them than may be told
// are as good as endless: t may share parts far more often than can be gone through.
func turned(t *Node, binders int, part func(n *Node, binders int) *Node) (out *Node) {
	jobs := []job{{t, binders, &out}}
	var made []*Node
	for len(jobs) > 0 {
		last := len(jobs) - 1
		j := jobs[last]
		jobs = jobs[:last]
		*j.to = part(j.from, j.binders)
		if *j.to != nil {
			continue
		}
		n := j.from.bare()
		for i, a := range j.from.args {
			jobs = append(jobs, job{a, j.binders + n.binds(i), &n.args[i]})
		}
		*j.to = n
		made = append(made, n)
		if len(made) > mostTold {
			return endless()
		}
	}
	settleAll(made)
	return out
}

// bare is n with room for its args.
func (n *Node) bare() *Node {
	n.show()
	return &Node{kind: n.kind, number: n.number, name: n.name, levels: n.levels, args: make([]*Node, len(n.args))}
}

// put has values for the least free variables, the last one for 0, and makes greater ones less by as many.
type put struct {
	values []*Node
	sharing
}

func putOf(values ...*Node) *put {
	return &put{values: values}
}

// below is t with the values put in, where so many binders lie around it that are not put in.
func (p *put) below(t *Node, binders int) *Node {
	return turned(t, binders, p.part)
}

func (p *put) part(n *Node, binders int) *Node {
	count := len(p.values)
	if n.free <= binders {
		return n
	}
	// What is lifted over all that is put in does not have it.
	if n.late != nil {
		if u := n.late.without(binders, count); u != nil {
			return u
		}
	}
	if !n.Is(api.TermVar) {
		return nil
	}
	number := n.number - binders
	if number >= count {
		return variable(n.number - count)
	}
	return p.one(spot{p.values[count-1-number], binders}, p.value)
}

// value is a value, where so many binders lie around it that are not put in.
func (p *put) value(s spot) *Node {
	return lifted(s.of, s.binders, 0)
}

// relevel puts Levels in the place of the parameters of others.
type relevel struct {
	by *[]api.Level
	fitting
}

func relevelBy(by []api.Level) *relevel {
	return &relevel{&by, fitting{by: by}}
}

// of is t with the Levels put in.
func (r *relevel) of(t *Node) *Node {
	if len(*r.by) == 0 {
		return t
	}
	return turned(t, 0, r.part)
}

func (r *relevel) part(n *Node, _ int) *Node {
	if !n.leveled {
		return n
	}
	if len(n.Args()) > 0 {
		return nil
	}
	if n.unfit { // and stays so: it may have no end
		return n
	}
	leaf := n.bare()
	leaf.levels.by = r.by
	leaf.unfit = !r.fit(n.levels.list)
	leaf.settle()
	return leaf
}
