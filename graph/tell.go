package graph

import "touchstone/api"

// How many parts a term that is told has, and its Levels have in all: more have more bytes than an answer may have.
const (
	mostTold   = 1 << 25
	mostLevels = 1 << 26
)

// telling makes an api.Term of a node, all of it new. What is still to be made stands in lists, since terms,
// and Levels that are handed in, may be deeper than a stack of calls.
type telling struct {
	open   []place
	levels []renewal
	left   int // parts of Levels that there is still room for
}

// place is a node that is to be told, and where.
type place struct {
	from *Node
	to   *api.Term
}

// renewal is a Level that is to be brought to new memory, and what is to be put in it.
type renewal struct {
	level *api.Level
	by    []api.Level
}

// Tell is n as an api.Term, unless there was an error. One that is too great to be told is greater than may be.
func Tell(n *Node, err api.Errno) (api.Term, api.Errno) {
	if err != api.OK {
		return api.Term{}, err
	}
	t, ok := n.Told()
	if !ok {
		return api.Term{}, api.ErrCells
	}
	return t, api.OK
}

// Told is n as an api.Term. Not ok: it is too great.
func (n *Node) Told() (out api.Term, ok bool) {
	if n.size > mostTold {
		return api.Term{}, false
	}
	t := telling{open: []place{{n, &out}}, left: mostLevels}
	for len(t.open) > 0 {
		last := len(t.open) - 1
		p := t.open[last]
		t.open = t.open[:last]
		if !t.tell(p) {
			return api.Term{}, false
		}
	}
	return out, true
}

// tell brings p's node to its place. What stands below it comes later.
func (t *telling) tell(p place) bool {
	n := p.from
	args, levels := n.glance(), n.levels()
	*p.to = api.Term{Kind: n.kind, N: n.number, Name: n.name(), Levels: append([]api.Level(nil), levels.list...)}
	if len(args) > 0 {
		p.to.Args = make([]api.Term, len(args))
	}
	for i, a := range args {
		t.open = append(t.open, place{a, &p.to.Args[i]})
	}
	t.left -= levels.Len()
	for i := range p.to.Levels {
		if !t.renew(renewal{&p.to.Levels[i], levels.put()}) {
			return false
		}
	}
	return true
}

// renew brings all of r to new memory. Not ok: there is no room for it, or it may have no end.
func (t *telling) renew(r renewal) bool {
	t.levels = append(t.levels[:0], r)
	least := max(t.left-mostParts, 0)
	for len(t.levels) > 0 {
		last := len(t.levels) - 1
		l, by := t.levels[last].level, t.levels[last].by
		t.levels = t.levels[:last]
		if p := parameter(l, by); p != nil {
			*l, by = *p, nil
		}
		t.left -= len(l.Args)
		if t.left < least {
			return false
		}
		l.Args = append([]api.Level(nil), l.Args...)
		for i := range l.Args {
			t.levels = append(t.levels, renewal{&l.Args[i], by})
		}
	}
	return true
}
